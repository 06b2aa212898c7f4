package define

import (
	"fmt"
	"regexp"
	"slices"
	"strconv"
	"strings"
	"testing"

	"bowdler/api"
	"bowdler/block"
	"bowdler/every"
	"bowdler/repair"
	"bowdler/target"
)

// named is what Name answers, defined what Line and Find answer.
type named struct {
	name string
	ok   bool
}

type defined struct {
	def api.Def
	ok  bool
}

func nameOf(s string) (n named) {
	n.name, n.ok = Name(s)
	return n
}

func lineOf(s string) (d defined) {
	d.def, d.ok = Line(s)
	return d
}

func found(x *Table, name string, note bool) (d defined) {
	d.def, d.ok = x.Find(name, note)
	return d
}

func aName(name string) named { return named{name, true} }

func aLink(name, url, title string) defined {
	return defined{api.Def{Name: name, Url: url, Title: title}, true}
}

func aNote(name, text string) defined {
	return defined{api.Def{Name: name, Text: text, Note: true}, true}
}

// check holds an answer against what is wanted.
func check[T comparable](t *testing.T, call, s string, got, want T) {
	t.Helper()
	if got != want {
		t.Errorf("%s(%.200q): %.200q, not %.200q", call, s, fmt.Sprintf("%+v", got), fmt.Sprintf("%+v", want))
	}
}

// checkTake holds what Take answers of a text.
func checkTake(t *testing.T, s string, defs []api.Def, rest string) {
	t.Helper()
	got, left := Take(s)
	if !slices.Equal(got, defs) || left != rest {
		t.Errorf("Take(%.200q): %.400q and %.200q, not %.400q and %.200q", s, fmt.Sprintf("%+v", got), left, fmt.Sprintf("%+v", defs), rest)
	}
}

func long(n int) string { return strings.Repeat("x", n) }

// P1101: what stands in the chapter of Name, by examples.
func TestName(t *testing.T) {
	for s, want := range map[string]named{
		"a":              aName("a"),
		"A b":            aName("a b"),
		"  A \t\r B  ":   aName("a b"),
		"\u00a0Ä\u3000Ö": aName("ä ö"),
		"×ß÷":            aName("×ß÷"),
		"^":              aName("^"),
		"^X":             aName("^x"),
		" ^ X":           aName("^ x"),
		"a\\":            aName("a\\"),
		"\\*":            aName("\\*"),
		"&amp;":          aName("&amp;"),
		"&#91;":          aName("&#91;"),
		"(){}<>!":        aName("(){}<>!"),
		"［］":             aName("［］"),
		"\x01\x7f":       aName("\x01\x7f"),
		"\v\u0085":       aName("\v\u0085"),
		"\xff":           aName("\xff"),
		"A\xff\xc3B":     aName("a\xff\xc3b"),
		"\ufffd":         aName("\ufffd"),
		// Nothing is left.
		"":                       {},
		" ":                      {},
		" \t\r\f":                {},
		"\u00a0\u3000":           {},
		strings.Repeat(" ", 100): {},
		// How many bytes are left.
		long(59):                             aName(long(59)),
		long(60):                             aName(long(60)),
		long(61):                             {},
		long(1000):                           {},
		" " + long(60) + "\t":                aName(long(60)),
		" " + long(61) + "\t":                {},
		"X" + strings.Repeat(" ", 60) + "Y":  aName("x y"),
		long(29) + " \t " + long(30):         aName(long(29) + " " + long(30)),
		long(30) + " " + long(30):            {},
		strings.Repeat("é", 30):              aName(strings.Repeat("é", 30)),
		strings.Repeat("É", 30):              aName(strings.Repeat("é", 30)),
		strings.Repeat("é", 31):              {},
		strings.Repeat("é", 30) + "a":        {},
		strings.Repeat("\u3000", 30) + "a":   aName("a"),
		strings.Repeat("\xff", 60):           aName(strings.Repeat("\xff", 60)),
		strings.Repeat("\xff", 61):           {},
		"^" + long(59):                       aName("^" + long(59)),
		"^" + long(60):                       {},
		strings.Repeat("a ", 30):             aName(strings.TrimSpace(strings.Repeat("a ", 30))),
		strings.Repeat("a ", 30) + "bc":      {},
		strings.Repeat("a ", 30) + "b":       {},
		strings.Repeat("a  ", 29) + "bc":     aName(strings.Repeat("a ", 29) + "bc"),
		long(60) + strings.Repeat(" \t", 99): aName(long(60)),
		// Bytes that no name has, also where Fold takes them for blanks, and behind a backslash.
		"[":              {},
		"]":              {},
		"\n":             {},
		"\x00":           {},
		"a[b":            {},
		"a]b":            {},
		"[a]":            {},
		"a\\[b":          {},
		"a\\]b":          {},
		"a\nb":           {},
		"\na":            {},
		"a\n":            {},
		"a\r\nb":         {},
		"a\x00b":         {},
		"a\x00":          {},
		"é[":             {},
		"\xff]":          {},
		long(60) + "\n":  {},
		long(60) + " [ ": {},
	} {
		check(t, "Name", s, nameOf(s), want)
	}
}

// P1101: of all bytes, four are in no name, wherever they stand, and others become what Fold tells.
func TestNameOfEachByte(t *testing.T) {
	for b := range 256 {
		sign := string([]byte{byte(b)})
		for _, s := range []string{"x" + sign + "y", sign + "y", "x" + sign, sign + sign, "é " + sign + " é", sign} {
			want := aName(repair.Fold(s))
			if want.name == "" || b == '[' || b == ']' || b == '\n' || b == 0 {
				want = named{}
			}
			check(t, "Name", s, nameOf(s), want)
		}
	}
}

// P1101: lines that define where a link leads.
func TestLineOfLinks(t *testing.T) {
	for s, want := range map[string]defined{
		"[A b]: /x \"t\"":       aLink("a b", "/x", "t"),
		"[a]: /x 't'":           aLink("a", "/x", "t"),
		"[a]: /x (t)":           aLink("a", "/x", "t"),
		"[a]: /x":               aLink("a", "/x", ""),
		"[a]:/x":                aLink("a", "/x", ""),
		"[a]:/x \t 't'\t ":      aLink("a", "/x", "t"),
		"[a]: \t /x\t":          aLink("a", "/x", ""),
		"[a]: /x ''":            aLink("a", "/x", ""),
		"[a]: /x\t\"t u\"":      aLink("a", "/x", "t u"),
		"[a]: /x \" t\t\" ":     aLink("a", "/x", " t\t"),
		"[a]: 'b' 'c'":          aLink("a", "'b'", "c"),
		"[a]: \"t\"":            aLink("a", "\"t\"", ""),
		"[a]: (t)":              aLink("a", "(t)", ""),
		"[a]: ]":                aLink("a", "]", ""),
		"[a]: [b]: /x":          {},
		"[a]:[b]:/x":            aLink("a", "[b]:/x", ""),
		"[a]::":                 aLink("a", ":", ""),
		"[a]: /x?b=c#d 'é\xff'": aLink("a", "/x?b=c#d", "é\xff"),
		"[a]: é\xff":            aLink("a", "é\xff", ""),
		"[a]: \u00a0":           aLink("a", "\u00a0", ""),
		"[\xff É]: /x":          aLink("\xff é", "/x", ""),
		// Destinations between signs.
		"[a]: <>":           aLink("a", "", ""),
		"[a]:<>":            aLink("a", "", ""),
		"[a]: <> ''":        aLink("a", "", ""),
		"[a]: </x y> 't'":   aLink("a", "/x y", "t"),
		"[a]: < x >\t":      aLink("a", " x ", ""),
		"[a]: <\\>>":        aLink("a", ">", ""),
		"[a]: <x>\t(t)":     aLink("a", "x", "t"),
		"[a]: \\<x>":        aLink("a", "<x>", ""),
		"[a]: <x\t>  \"\" ": aLink("a", "x\t", ""),
		// Backslashes and entities.
		"[a]: \\*&amp; '\\'&lt;\\*'": aLink("a", "*&", "'<*"),
		"[a]: /x\\":                  aLink("a", "/x\\", ""),
		"[a]: /x\\ 't'":              aLink("a", "/x\\", "t"),
		"[a]: /x\\\t":                aLink("a", "/x\\", ""),
		"[a]: (b(c)) (\\()":          aLink("a", "(b(c))", "("),
		"[a]: \\( (t)":               aLink("a", "(", "t"),
		"[a\\]: /x":                  aLink("a\\", "/x", ""),
		"[&amp;\\*]: /x":             aLink("&amp;\\*", "/x", ""),
		// Names.
		"[ A \t B ]: /x":                       aLink("a b", "/x", ""),
		"[ ^n]: x":                             aLink("^n", "x", ""),
		"[\t^]: x":                             aLink("^", "x", ""),
		"[a^]: x":                              aLink("a^", "x", ""),
		"[\\^a]: x":                            aLink("\\^a", "x", ""),
		"[:]: x":                               aLink(":", "x", ""),
		"[a:]: x":                              aLink("a:", "x", ""),
		"[" + long(60) + "]: x":                aLink(long(60), "x", ""),
		"[ " + long(60) + " ]: x":              aLink(long(60), "x", ""),
		"[" + strings.Repeat("É", 30) + "]: x": aLink(strings.Repeat("é", 30), "x", ""),
		"[" + long(61) + "]: x":                {},
		"[ ^" + long(60) + "]: x":              {},
		// Wrong names, and signs.
		"":                 {},
		"[":                {},
		"[]":               {},
		"[]:":              {},
		"[a":               {},
		"[a]":              {},
		"[a:":              {},
		"a]: /x":           {},
		"a[b]: /x":         {},
		"[a] : /x":         {},
		"[a]\t: /x":        {},
		"[a]. /x":          {},
		"[a] /x":           {},
		"[a](/x)":          {},
		" [a]: /x":         {},
		"\t[a]: /x":        {},
		"\\[a]: /x":        {},
		"![a]: /x":         {},
		"[]: /x":           {},
		"[ \t]: /x":        {},
		"[\u00a0]: /x":     {},
		"[a[b]: /x":        {},
		"[a]b]: /x":        {},
		"[a]]: /x":         {},
		"[[a]]: /x":        {},
		"[[a]: /x":         {},
		"[a\\]b]: /x":      {},
		"[a\\[b]: /x":      {},
		"[a] [b]: /x":      {},
		"[a]：/x":           {},
		"［a］: /x":          {},
		"[a\nb]: /x":       {},
		"[a\x00]: /x":      {},
		"[a\x00b]: /x 't'": {},
		// Wrong destinations.
		"[a]:":          {},
		"[a]: ":         {},
		"[a]: \t ":      {},
		"[a]: )":        {},
		"[a]: (":        {},
		"[a]: (b":       {},
		"[a]: (b c)":    {},
		"[a]: /x)":      {},
		"[a]: /x) 't'":  {},
		"[a]: <x":       {},
		"[a]: <x\\>":    {},
		"[a]: <x<y>":    {},
		"[a]: <x>y":     {},
		"[a]: <x>>":     {},
		"[a]: <x\x00>":  {},
		"[a]: \x00":     {},
		"[a]: /x\x00":   {},
		"[a]: /x\x7f":   {},
		"[a]: /x\r":     {},
		"[a]: \r/x":     {},
		"[a]:\v/x":      {},
		"[a]:\n/x":      {},
		"[a]: /x\n":     {},
		"[a]: /x\n 't'": {},
		"[a]: /x \n't'": {},
		// Wrong titles.
		"[a]: /x y":           {},
		"[a]: /x 't":          {},
		"[a]: /x t'":          {},
		"[a]: /x 't\"":        {},
		"[a]: /x (t":          {},
		"[a]: /x (t(u))":      {},
		"[a]: /x (t))":        {},
		"[a]: /x 't'u":        {},
		"[a]: /x 't' u":       {},
		"[a]: /x 't' 'u'":     {},
		"[a]: /x 't''u'":      {},
		"[a]: /x 't\\'":       {},
		"[a]: /x '\x00'":      {},
		"[a]: /x 't'\x00":     {},
		"[a]: /x 't'\n":       {},
		"[a]: /x 't' \r":      {},
		"[a]: /x \\'t'":       {},
		"[a]: /x <t>":         {},
		"[a]: /x \u00a0't'":   {},
		"[a]: /x\u00a0't'":    aLink("a", "/x\u00a0't'", ""),
		"[a]: /x't'":          aLink("a", "/x't'", ""),
		"[a]: /x(t)":          aLink("a", "/x(t)", ""),
		"[a]: <x>'t'":         {},
		"[a]: <x>(t)":         {},
		"[a]: <x>\"t\"":       {},
		"[a]: <x>\u00a0\"t\"": {},
		"[a]: <>''":           {},
	} {
		check(t, "Line", s, lineOf(s), want)
	}
}

// P1101: lines that define a note.
func TestLineOfNotes(t *testing.T) {
	for s, want := range map[string]defined{
		"[^a]: b":              aNote("a", "b"),
		"[^a]:b":               aNote("a", "b"),
		"[^N]:\t some *text* ": aNote("n", "some *text*"),
		"[^a]:  b\tc \t":       aNote("a", "b\tc"),
		"[^A \tB]: b":          aNote("a b", "b"),
		"[^ É ]: é\xff":        aNote("é", "é\xff"),
		"[^\xff]: b":           aNote("\xff", "b"),
		"[^^a]: b":             aNote("^a", "b"),
		"[^ ^a]: b":            aNote("^a", "b"),
		"[^^]: b":              aNote("^", "b"),
		"[^:]: b":              aNote(":", "b"),
		"[^\\]: b":             aNote("\\", "b"),
		// The rest is any text.
		"[^a]::":              aNote("a", ":"),
		"[^a]: [b]: c":        aNote("a", "[b]: c"),
		"[^a]: [^a]: b":       aNote("a", "[^a]: b"),
		"[^a]: /x \"t\"":      aNote("a", "/x \"t\""),
		"[^a]: <x":            aNote("a", "<x"),
		"[^a]: (":             aNote("a", "("),
		"[^a]: \\* &amp;":     aNote("a", "\\* &amp;"),
		"[^a]: \x00":          aNote("a", "\x00"),
		"[^a]: b\x000\x00 c":  aNote("a", "b\x000\x00 c"),
		"[^a]: \u00a0":        aNote("a", "\u00a0"),
		"[^a]: \r":            aNote("a", "\r"),
		"[^a]:\v b":           aNote("a", "\v b"),
		"[^a]: {|x:b|}":       aNote("a", "{|x:b|}"),
		"[^a]: " + long(1000): aNote("a", long(1000)),
		// How long a name is: the sign ahead is no part of it.
		"[^" + long(59) + "]: b":                  aNote(long(59), "b"),
		"[^" + long(60) + "]: b":                  aNote(long(60), "b"),
		"[^ " + long(60) + "\t]: b":               aNote(long(60), "b"),
		"[^" + strings.Repeat("É", 30) + "]: b":   aNote(strings.Repeat("é", 30), "b"),
		"[^" + long(61) + "]: b":                  {},
		"[^" + strings.Repeat("É", 30) + "a]: b":  {},
		"[^^" + long(60) + "]: b":                 {},
		"[^x" + strings.Repeat(" ", 99) + "]: b":  aNote("x", "b"),
		"[^x" + strings.Repeat(" ", 99) + "y]: b": aNote("x y", "b"),
		// Wrong ones.
		"[^a]:":        {},
		"[^a]: ":       {},
		"[^a]: \t \t":  {},
		"[^]: b":       {},
		"[^ ]: b":      {},
		"[^\t]: b":     {},
		"[^\u00a0]: b": {},
		"[^":           {},
		"[^]":          {},
		"[^]:":         {},
		"[^a":          {},
		"[^a]":         {},
		"[^a] : b":     {},
		"[^a] b":       {},
		"[^a]b: c":     {},
		" [^a]: b":     {},
		"^[a]: b":      {},
		"[^[a]: b":     {},
		"[^a[b]: c":    {},
		"[^a]b]: c":    {},
		"[^a]]: b":     {},
		"[[^a]]: b":    {},
		"[^a\\]b]: c":  {},
		"[^a\nb]: c":   {},
		"[^a\x00]: b":  {},
		"\\[^a]: b":    {},
	} {
		check(t, "Line", s, lineOf(s), want)
	}
}

// P1101: of all bytes, those that may stand at each place of a line.
func TestLineOfEachByte(t *testing.T) {
	for b := range 256 {
		sign := string([]byte{byte(b)})
		for _, c := range []struct{ head, tail string }{
			{"", "[a]: /x"}, {"", "a]: /x"}, {"[", "]: /x"}, {"[", "a]: /x"}, {"[a", "b]: /x"}, {"[a", ": /x"}, {"[a]", " /x"}, {"[a]", ": /x"},
			{"[a]:", "/x"}, {"[a]:", "</x>"}, {"[a]:", "<"}, {"[a]: /x", ""}, {"[a]: <x", ">"}, {"[a]: <x>", ""}, {"[a]: <x>", "'t'"}, {"[a]: <x>", "(t)"},
			{"[a]: /x ", ""}, {"[a]: /x ", "t" + sign}, {"[a]: /x ", "t)"}, {"[a]: /x '", "'"}, {"[a]: /x 't'", ""}, {"[a]: /x 't'", " "},
			{"[^a]:", ""}, {"[^a]:", "b"}, {"[^a]:b", ""}, {"[^a]: ", " "}, {"[^", "]: b"}, {"[^", "a]: b"}, {"[^a", "]: b"}, {"[^a]", ": b"}, {"[^a", ": b"},
		} {
			s := c.head + sign + c.tail
			check(t, "Line", s, lineOf(s), wantLine(s))
		}
	}
}

// P1101: the definitions that a text begins with, by examples.
func TestTake(t *testing.T) {
	x, y, n := aLink("a", "/x", "").def, aLink("b", "/y", "t").def, aNote("a", "c d").def
	for _, c := range []struct {
		s    string
		defs []api.Def
		rest string
	}{
		{"", nil, ""},
		{"c", nil, "c"},
		{"\n", nil, "\n"},
		{"[a]: /x", []api.Def{x}, ""},
		{"[a]: /x\n", []api.Def{x}, ""},
		{"[a]: /x\n\n", []api.Def{x}, "\n"},
		{"[a]: /x\n \n[b]: /y 't'", []api.Def{x}, " \n[b]: /y 't'"},
		{"\n[a]: /x", nil, "\n[a]: /x"},
		{"c\n[a]: /x", nil, "c\n[a]: /x"},
		{"[a]: /x\nc", []api.Def{x}, "c"},
		{"[a]: /x\nc\n", []api.Def{x}, "c\n"},
		{"[a]: /x\n[b]: /y 't'\n[^A]: c d", []api.Def{x, y, n}, ""},
		{"[^A]:\tc d \n[A]:/x\n[B]: </y> (t) \nc\n[b]: /z\n", []api.Def{n, x, y}, "c\n[b]: /z\n"},
		// Names that come again are told again.
		{"[a]: /x\n[a]: /x\n[^a]: c d\n[^a]: c d", []api.Def{x, x, n, n}, ""},
		// A line is a whole definition, or none.
		{"[b]: /y\n't'", []api.Def{aLink("b", "/y", "").def}, "'t'"},
		{"[b]: /y 't\n'", nil, "[b]: /y 't\n'"},
		{"[b]:\n/y", nil, "[b]:\n/y"},
		{"[a\nb]: /y", nil, "[a\nb]: /y"},
		{"[a]: /x\n[^a]:\nc d", []api.Def{x}, "[^a]:\nc d"},
		{"[^a]: c d\n e", []api.Def{n}, " e"},
		{"[a]: /x\r\n[b]: /y", nil, "[a]: /x\r\n[b]: /y"},
		{"[a]: /x\n [b]: /y", []api.Def{x}, " [b]: /y"},
		{"[a]: <\\\n>", nil, "[a]: <\\\n>"},
		{"[a]: /x\n[b]: /y z\n[a]: /x", []api.Def{x}, "[b]: /y z\n[a]: /x"},
		{"[a]: /x\n\xff\x00", []api.Def{x}, "\xff\x00"},
	} {
		checkTake(t, c.s, c.defs, c.rest)
	}
}

// P1101: a list that Take told is the caller's own.
func TestTakeOwn(t *testing.T) {
	const s = "[a]: /x\n[b]: /y 't'\nc"
	defs, _ := Take(s)
	for i := range defs {
		defs[i] = api.Def{}
	}
	checkTake(t, s, []api.Def{aLink("a", "/x", "").def, aLink("b", "/y", "t").def}, "c")
}

// The calls said another way.
var (
	lineForm  = regexp.MustCompile(`(?s)^\[([^\[\]]*)\]:[ \t]*(.*)$`)
	titleForm = regexp.MustCompile(`(?s)^(?:[ \t]+([^ \t].*?))?[ \t]*$`)
)

func wantName(s string) named {
	name := repair.Fold(s)
	if strings.ContainsAny(s, "[]\n\x00") || name == "" || len(name) > 60 {
		return named{}
	}
	return aName(name)
}

func wantLine(s string) defined {
	m := lineForm.FindStringSubmatch(s)
	if m == nil {
		return defined{}
	}
	if strings.HasPrefix(m[1], "^") {
		name, text := wantName(m[1][1:]), block.Plain(m[2])
		if !name.ok || text == "" {
			return defined{}
		}
		return aNote(name.name, text)
	}
	name := wantName(m[1])
	url, size, ok := target.Dest(m[2])
	behind := titleForm.FindStringSubmatch(m[2][size:])
	if !name.ok || !ok || behind == nil {
		return defined{}
	}
	title, size, _ := target.Title(behind[1])
	if size != len(behind[1]) {
		return defined{}
	}
	return aLink(name.name, url, title)
}

// checkAll holds every call of a text against the same said another way.
func checkAll(t *testing.T, s string) {
	t.Helper()
	check(t, "Name", s, nameOf(s), wantName(s))
	check(t, "Line", s, lineOf(s), wantLine(s))
	var defs []api.Def
	lines := strings.Split(s, "\n")
	for len(lines) > 0 && wantLine(lines[0]).ok {
		defs = append(defs, wantLine(lines[0]).def)
		lines = lines[1:]
	}
	checkTake(t, s, defs, strings.Join(lines, "\n"))
}

// checkEvery holds every text of up to most of the pieces, behind the head.
func checkEvery(t *testing.T, most int, head string, pieces ...string) {
	t.Helper()
	every.Text(pieces, most, func(s string) {
		if !t.Failed() {
			checkAll(t, head+s)
		}
	})
}

// P1101: every short text of awkward pieces.
func TestAll(t *testing.T) {
	checkEvery(t, 4, "", "[", "]", ":", "]:", "[a]:", "[^", "^", " ", "\t", "\n", "\\", "É", "\x00", "\xff", "\u00a0", "<", ">", "'", long(60))
	checkEvery(t, 7, "[", "[", "]", ":", "^", " ", "A")
	checkEvery(t, 6, "[^", "^", "]:", "]", " ", "\n", "b")
	checkEvery(t, 6, "[a]:", " ", "\t", "b", "<", ">", "\\", "(", ")")
	checkEvery(t, 5, "[a]: /x", " ", "\t", "'", "\"", "(", ")", "\\", "\n", "b", "\x00", "&amp;")
	checkEvery(t, 5, "[a]: <x> ", " ", "\t", "'", "'t'", "\"", "(u)", "\\", "\n", ")")
	checkEvery(t, 5, "[^a]:", " ", "\t", "\n", "b", "\u00a0", "\x00", "\xff", "[^c]: d")
	checkEvery(t, 6, "", "[a]: /x", "[^b]: y", "[c]: <z> 't'", "\n", " ", "d", "[e]:")
}

// P1102: what is added, what is there already, what is found, by examples.
func TestTable(t *testing.T) {
	var x Table
	first, second := api.Def{Name: "a b", Url: "/1", Title: "t"}, api.Def{Name: "a b", Url: "/2"}
	note, other := api.Def{Name: "a b", Text: "n", Note: true}, api.Def{Name: "é", Url: "/3"}
	check(t, "Find", "a b", found(&x, "a b", false), defined{})
	check(t, "All", "nothing", len(x.All()), 0)
	for _, c := range []struct {
		def  api.Def
		want bool
	}{{first, true}, {second, false}, {first, false}, {note, true}, {note, false}, {other, true}, {second, false}, {api.Def{Name: "a b", Note: true}, false}} {
		check(t, "Add", fmt.Sprint(c.def), x.Add(c.def), c.want)
	}
	if got := x.All(); !slices.Equal(got, []api.Def{first, note, other}) {
		t.Errorf("All: %+v", got)
	}
	for _, c := range []struct {
		name string
		note bool
		want defined
	}{
		{"a b", false, defined{first, true}},
		{" A\t\u00a0B ", false, defined{first, true}},
		{"A b", true, defined{note, true}},
		{"É", false, defined{other, true}},
		{"É", true, defined{}},
		{"^a b", true, defined{}},
		{"^a b", false, defined{}},
		{"a\nb", false, defined{}},
		{"ab", false, defined{}},
		{"a", false, defined{}},
		{"", false, defined{}},
		{" ", true, defined{}},
		{"[a b]", false, defined{}},
		{"a b\x00", true, defined{}},
		{long(61), false, defined{}},
	} {
		check(t, "Find", c.name, found(&x, c.name, c.note), c.want)
	}
}

// P1102: names are held against each other as they were added; one that is no name, as Name tells it, is never found.
func TestTableOfOddNames(t *testing.T) {
	var x Table
	odd := []string{"C", "c", " c", "c ", "", "[", "a\nb", "\x00", "É", long(61), "a  b", "^"}
	for _, note := range []bool{false, true} {
		for i, name := range odd {
			d := api.Def{Name: name, Url: strconv.Itoa(i), Note: note}
			check(t, "Add", name, x.Add(d), true)
			check(t, "Add", name, x.Add(d), false)
		}
	}
	check(t, "All", "odd names", len(x.All()), 2*len(odd))
	for i, d := range x.All() {
		check(t, "All", d.Name, d, api.Def{Name: odd[i%len(odd)], Url: strconv.Itoa(i % len(odd)), Note: i >= len(odd)})
	}
	for _, note := range []bool{false, true} {
		for _, name := range odd {
			want := defined{}
			switch name {
			case "C", "c", " c", "c ":
				want = defined{api.Def{Name: "c", Url: "1", Note: note}, true}
			case "^":
				want = defined{api.Def{Name: "^", Url: "11", Note: note}, true}
			}
			check(t, "Find", name, found(&x, name, note), want)
		}
	}
}

// P1102: every short row of definitions, one by one, against a list of those that came first.
func TestTableOfRows(t *testing.T) {
	defs := []api.Def{
		{Name: "a", Url: "1"}, {Name: "a", Url: "2", Title: "t"}, {Name: "a", Note: true, Text: "3"}, {Name: "b", Note: true},
		{Name: "b", Url: "4"}, {Name: "A", Url: "5"}, {Name: "", Url: "6"},
	}
	every.Text([]string{"0", "1", "2", "3", "4", "5", "6"}, 5, func(row string) {
		if t.Failed() {
			return
		}
		var x Table
		var first []api.Def
		for _, k := range row {
			d := defs[k-'0']
			twice := slices.ContainsFunc(first, func(e api.Def) bool { return e.Name == d.Name && e.Note == d.Note })
			if !twice {
				first = append(first, d)
			}
			check(t, "Add", row, x.Add(d), !twice)
		}
		if got := x.All(); !slices.Equal(got, first) {
			t.Errorf("All of %s: %+v, not %+v", row, got, first)
		}
		for _, name := range []string{"a", " A ", "b", "c", ""} {
			for _, note := range []bool{false, true} {
				want := defined{}
				for _, d := range first {
					if d.Name == repair.Fold(name) && d.Note == note && name != "" {
						want = defined{d, true}
					}
				}
				check(t, "Find", row+" "+name, found(&x, name, note), want)
			}
		}
	})
}

// P1102: a list that All told is the caller's own, and one table is not another one.
func TestTableOwn(t *testing.T) {
	var x, y Table
	a, b := api.Def{Name: "a", Url: "/x"}, api.Def{Name: "b"}
	x.Add(a)
	all := x.All()
	all[0] = b
	all = append(all[:0], b, b)
	x.Add(b)
	if got := x.All(); !slices.Equal(got, []api.Def{a, b}) {
		t.Errorf("All, when what it told was changed: %+v", got)
	}
	check(t, "Find", "a", found(&x, "a", false), defined{a, true})
	check(t, "append", "own", all[1], b)
	check(t, "Find", "a", found(&y, "a", false), defined{})
	check(t, "Add", "a", y.Add(api.Def{Name: "a"}), true)
	check(t, "Find", "a", found(&x, "a", false), defined{a, true})
}

// P1102: none has nothing, and nothing can be added to it.
func TestTableOfNone(t *testing.T) {
	var none *Table
	for range 2 {
		check(t, "Add", "a", none.Add(api.Def{Name: "a"}), false)
		check(t, "Add", "", none.Add(api.Def{}), false)
		for _, name := range []string{"a", "", "[", "^a"} {
			check(t, "Find", name, found(none, name, false), defined{})
			check(t, "Find", name, found(none, name, true), defined{})
		}
		check(t, "All", "none", len(none.All()), 0)
	}
}

// P1101, P1102: of long texts, too, each byte is asked a few times, and of many definitions none is held against all others.
func TestLong(t *testing.T) {
	const n = 1 << 20
	many := func(s string) string { return strings.Repeat(s, n) }
	check(t, "Name", "long", nameOf(many(" ")+"A"+many("\t")), aName("a"))
	check(t, "Name", "long", nameOf(many("a")), named{})
	check(t, "Line", "long", lineOf("["+many("]")), defined{})
	check(t, "Line", "long", lineOf(many("[a]")), defined{})
	check(t, "Line", "long", lineOf("["+many(" ")+"a]:"+many("\t")+many("x")+many(" ")+"'"+many("t")+"'"+many(" ")), aLink("a", many("x"), many("t")))
	check(t, "Line", "long", lineOf("[^a]:"+many("\t")+many("b ")+many(" ")), aNote("a", strings.TrimRight(many("b "), " ")))
	defs, rest := Take(many("[a]: /x\n") + many("b\n"))
	check(t, "Take", "long", len(defs), n)
	check(t, "Take", "long", rest, many("b\n"))
	var x Table
	for k := range n / 4 {
		check(t, "Add", "many", x.Add(api.Def{Name: strconv.Itoa(k)}), true)
	}
	for k := range n / 4 {
		name := strconv.Itoa(k)
		check(t, "Find", name, found(&x, " "+name, false), defined{api.Def{Name: name}, true})
	}
	check(t, "All", "many", len(x.All()), n/4)
}
