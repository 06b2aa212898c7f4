package policy

import (
	"math"
	"regexp"
	"slices"
	"strconv"
	"strings"
	"testing"

	"bowdler/api"
	"bowdler/every"
	"bowdler/line"
)

// long is a name of so many bytes.
func long(n int) string { return strings.Repeat("a", n) }

// numbered are so many names.
func numbered(n int) []string {
	var names []string
	for k := range n {
		names = append(names, "l"+strconv.Itoa(k))
	}
	return names
}

// levels are the lines of names.
func levels(names []string) string {
	var out strings.Builder
	for _, name := range names {
		out.WriteString("level " + name + "\n")
	}
	return out.String()
}

func equal(a, b Policy) bool {
	return slices.Equal(a.Names, b.Names) && slices.Equal(a.Below, b.Below)
}

// copied is p in memory of its own.
func copied(p Policy) Policy {
	return Policy{slices.Clone(p.Names), slices.Clone(p.Below)}
}

// checkParse holds what Parse answers of s against a policy.
func checkParse(t *testing.T, s string, want Policy) {
	t.Helper()
	if got, e := Parse(s); e != api.OK || !equal(got, want) {
		t.Errorf("Parse(%q): %#v, %d, not %#v", s, got, e, want)
	}
}

// checkNone holds that s is no policy.
func checkNone(t *testing.T, s string) {
	t.Helper()
	if got, e := Parse(s); e != api.ErrPolicy || got.Names != nil || got.Below != nil {
		t.Errorf("Parse(%q): %#v, %d", s, got, e)
	}
}

// P401: what stands in the chapter of Parse, by examples.
func TestParse(t *testing.T) {
	low := Policy{Names: []string{"low", "high"}, Below: [][2]int{{0, 1}}}
	one := Policy{Names: []string{"a"}}
	for _, c := range []struct {
		in   string
		want Policy
	}{
		{"level low\nlevel high\nlow < high", low},
		{"level low\nlevel high\nlow < high\n", low},
		// The ends of lines are those of repair.Text.
		{"level low\rlevel high\r\nlow < high\r", low},
		{"level low\r\r\nlevel high\n\rlow < high\r\n\r\n", low},
		// Lines that are nothing.
		{"\n\n \n\t\n \t \nlevel low\n#\nlevel high\n\n# low\n#low < high\nlow < high\n\t", low},
		{"#\xff\x00 é\nlevel a", one},
		{"level a\n##", one},
		{"level a\n#level a\n#a < a\n#level B", one},
		{" \nlevel a\n\t", one},
		// Levels may be declared between pairs.
		{"level a\nlevel b\nb < a\nlevel c\nc < a\nb < c", Policy{Names: []string{"a", "b", "c"}, Below: [][2]int{{1, 0}, {2, 0}, {1, 2}}}},
		// Names are not put in order; pairs may come twice, and both ways.
		{"level z\nlevel a\nlevel m", Policy{Names: []string{"z", "a", "m"}}},
		{"level a\nlevel b\na < b\nb < a\na < b", Policy{Names: []string{"a", "b"}, Below: [][2]int{{0, 1}, {1, 0}, {0, 1}}}},
		// All that a name may be.
		{"level az09-\nlevel -\nlevel --\nlevel 0\nlevel 00\n- < 0", Policy{Names: []string{"az09-", "-", "--", "0", "00"}, Below: [][2]int{{1, 3}}}},
		{"level " + long(19) + "\nlevel " + long(20) + "\n" + long(19) + " < " + long(20), Policy{Names: []string{long(19), long(20)}, Below: [][2]int{{0, 1}}}},
		// A level called level.
		{"level level\nlevel b\nlevel < b\nb < level", Policy{Names: []string{"level", "b"}, Below: [][2]int{{0, 1}, {1, 0}}}},
	} {
		checkParse(t, c.in, c.want)
	}
}

// P401: texts that are no policy.
func TestParseOfNone(t *testing.T) {
	for _, s := range []string{
		// Not one level.
		"", "\n", " ", "#", "# level a", "\n#\n\t\n",
		// Names that are none.
		"level", "level ", "level\t", "level A", "level aB", "level Z", "level a_b", "level a.b", "level é", "level aé", "level ａ", "level a\u00a0",
		"level `", "level {", "level /", "level :", "level ,", "level .", "level <", "level #", "level a<", "level \x00", "level a\x00", "level a\xff", "level \xff", "level " + long(21), "level " + long(1<<16),
		// Runes whose low byte is that of a letter, a digit or a -.
		"level \u0161", "level \u0130", "level \u012d", "level \U00010061",
		// Other words, or other blanks.
		"a", "levels a", "Level a", "LEVEL a", "level: a", "level=a", "levela", "level-a", "level  a", "level a ", " level a", "\tlevel a", "level\ta", "level\u00a0a", "level a\t", "level a b", "level a # b", "level a #", "level a\n #", "level a\n\t#", "level a\nb", "level a\na", "level a\n<", "level a\n < ", "\ufefflevel a",
		// Lines that only look as if they were nothing.
		"level a\n\v", "level a\n\f", "level a\n\u00a0\nlevel b", "level a\n \u2003\t", "level a\n\u3000#", "level a\n//", "level a\n\x00", "level a\n\ufeff",
		"level a\vlevel b", "level a\flevel b", "level a\u2028level b",
		// Names that are not new.
		"level a\nlevel a", "level a\nlevel b\n\nlevel a", "level a\nlevel b\na < b\nlevel b",
		// Pairs of what is not declared ahead, or of one level.
		"a < b", "level a\na < b", "level b\na < b", "level a\na < b\nlevel b", "a < b\nlevel a\nlevel b", "level a\na < a", "level a\nlevel b\na < b\nb < b", "level a\nlevel b\na < B", "level a\nlevel b\nA < b",
	} {
		checkNone(t, s)
	}
	for _, s := range []string{
		"a<b", "a <b", "a< b", "a  < b", "a <  b", "a < b ", " a < b", "\ta < b", "a < b\t", "a\t< b", "a <\tb", "a\u00a0< b", "a > b", "b > a", "a <= b", "a = b", "a << b", "a < < b", "a b", "a < ", " < b", "a <", "< b", "<", " < ",
		"a < b < a", "a < b a", "a < b # why", "a b < a", "a < b, a", "level a < b", "a < level b", "below a b", "a < b\x00", "a\xff < b", "0 < 1", "-1 < 0",
	} {
		checkNone(t, "level a\nlevel b\n"+s)
	}
}

// P401: a wrong line is one wherever it stands, and takes all else with it.
func TestParseOfWrongLines(t *testing.T) {
	right := []string{"level a", "level b", "a < b", "", "# c", "level c", "b < c"}
	for _, wrong := range []string{"x", "level", "level A", " #", "a<b", "c < c", "level x y"} {
		for at := range len(right) + 1 {
			checkNone(t, line.Join(slices.Insert(slices.Clone(right), at, wrong)...))
		}
	}
}

// P401: a name of each byte, and of a letter and it.
func TestNamesOfEachByte(t *testing.T) {
	const signs = "abcdefghijklmnopqrstuvwxyz0123456789-"
	for b := range 256 {
		for _, name := range []string{string([]byte{byte(b)}), string([]byte{'x', byte(b)})} {
			may := strings.IndexByte(signs, byte(b)) >= 0
			p := Policy{Names: []string{name}}
			if Right(p) != may {
				t.Errorf("Right of a level %q: %v", name, !may)
			}
			if may {
				checkParse(t, "level "+name, p)
			} else if name != "x\n" && name != "x\r" {
				checkNone(t, "level "+name)
			}
		}
	}
}

// P401: as many levels as may be, and one more.
func TestMaxLevels(t *testing.T) {
	names := numbered(api.MaxLevels)
	most := Policy{Names: names, Below: [][2]int{{0, 63}, {63, 62}}}
	checkParse(t, levels(names)+"l0 < l63\nl63 < l62", most)
	checkNone(t, levels(names)+"level more")
	checkNone(t, levels(names)+"l0 < l64")
	checkNone(t, levels(names)+"level l0")
	checkNone(t, levels(numbered(1<<12)))
	if !Right(most) {
		t.Error("Right of 64 levels: false")
	}
	if Right(Policy{Names: numbered(api.MaxLevels + 1)}) {
		t.Error("Right of 65 levels: true")
	}
}

// P401: the number of pairs has no bound of its own.
func TestManyPairs(t *testing.T) {
	const n = 1 << 14
	text := "level a\nlevel b\n" + strings.Repeat("a < b\n", n)
	p := Policy{Names: []string{"a", "b"}, Below: slices.Repeat([][2]int{{0, 1}}, n)}
	checkParse(t, text, p)
	if s, ok := Write(p); s != text || !ok {
		t.Errorf("Write of many pairs: %v, %d bytes", ok, len(s))
	}
}

// P401: what is done to an answer is not seen in the next one.
func TestParseIsNew(t *testing.T) {
	const s = "level a\nlevel b\na < b\n"
	first, _ := Parse(s)
	first.Names[0], first.Below[0] = "other", [2]int{7, 7}
	_ = append(first.Names[:1], "more")
	checkParse(t, s, Policy{Names: []string{"a", "b"}, Below: [][2]int{{0, 1}}})
}

// P402: what stands in the chapter of Right and Write, by examples.
func TestWrite(t *testing.T) {
	for _, c := range []struct {
		in   Policy
		want string
	}{
		{Policy{Names: []string{"a"}}, "level a\n"},
		{Policy{Names: []string{"a"}, Below: [][2]int{}}, "level a\n"},
		{Policy{Names: []string{"low", "high"}, Below: [][2]int{{0, 1}}}, "level low\nlevel high\nlow < high\n"},
		{Policy{Names: []string{"z", "-", "0"}, Below: [][2]int{{2, 1}, {0, 2}, {2, 1}, {1, 2}}}, "level z\nlevel -\nlevel 0\n0 < -\nz < 0\n0 < -\n- < 0\n"},
		{Policy{Names: []string{"level", long(20)}, Below: [][2]int{{0, 1}}}, "level level\nlevel " + long(20) + "\nlevel < " + long(20) + "\n"},
	} {
		kept := copied(c.in)
		if !Right(c.in) {
			t.Errorf("Right(%#v): false", c.in)
		}
		if got, ok := Write(c.in); got != c.want || !ok {
			t.Errorf("Write(%#v): %q, %v, not %q", c.in, got, ok, c.want)
		}
		if !equal(c.in, kept) {
			t.Errorf("Write wrote into it: %#v, not %#v", c.in, kept)
		}
		checkParse(t, c.want, c.in)
	}
}

// P402: policies that are not Right are not written.
func TestWriteOfWrong(t *testing.T) {
	two := []string{"a", "b"}
	for _, p := range []Policy{
		{},
		{Names: []string{}},
		{Below: [][2]int{{0, 1}}},
		{Names: []string{""}},
		{Names: []string{"a", ""}},
		{Names: []string{"", "a"}},
		{Names: []string{"a", "a"}},
		{Names: []string{"a", "b", "a"}},
		{Names: []string{"A"}},
		{Names: []string{"a b"}},
		{Names: []string{"a", " b"}},
		{Names: []string{"a", "b "}},
		{Names: []string{"a\n"}},
		{Names: []string{"é"}},
		{Names: []string{"a\xff"}},
		{Names: []string{"<"}},
		{Names: []string{"#"}},
		{Names: []string{long(21)}},
		{Names: make([]string, 64)},
		{Names: make([]string, 65)},
		{Names: numbered(65)},
		{Names: []string{"a"}, Below: [][2]int{{0, 0}}},
		{Names: []string{"a"}, Below: [][2]int{{0, 1}}},
		{Names: two, Below: [][2]int{{1, 1}}},
		{Names: two, Below: [][2]int{{0, 2}}},
		{Names: two, Below: [][2]int{{2, 0}}},
		{Names: two, Below: [][2]int{{-1, 0}}},
		{Names: two, Below: [][2]int{{0, -1}}},
		{Names: two, Below: [][2]int{{0, 1}, {1, 0}, {2, 3}}},
		{Names: two, Below: [][2]int{{math.MinInt, 0}}},
		{Names: two, Below: [][2]int{{0, math.MaxInt}}},
		{Names: two, Below: [][2]int{{math.MaxInt, math.MinInt}}},
	} {
		kept := copied(p)
		if Right(p) {
			t.Errorf("Right(%#v): true", p)
		}
		if s, ok := Write(p); s != "" || ok {
			t.Errorf("Write(%#v): %q, %v", p, s, ok)
		}
		if !equal(p, kept) {
			t.Errorf("Right or Write wrote into it: %#v, not %#v", p, kept)
		}
	}
}

// P402: Right of all pairs of small indices.
func TestRightOfEachPair(t *testing.T) {
	names := numbered(3)
	for a := -2; a < 6; a++ {
		for b := -2; b < 6; b++ {
			want := 0 <= a && a < 3 && 0 <= b && b < 3 && a != b
			p := Policy{Names: names, Below: [][2]int{{0, 1}, {a, b}}}
			if Right(p) != want {
				t.Errorf("Right of the pair %d, %d: %v", a, b, !want)
			}
		}
	}
}

// P402: the index of each name, and of what is none.
func TestIndex(t *testing.T) {
	p := Policy{Names: numbered(api.MaxLevels), Below: [][2]int{{0, 1}}}
	kept := copied(p)
	for i, name := range kept.Names {
		if got := Index(p, name); got != i {
			t.Errorf("Index of %q: %d, not %d", name, got, i)
		}
	}
	for _, name := range []string{"", "l", "0", "l64", "L0", " l0", "l0 ", "l00", "level l0", "l0\n", "é", "\xff"} {
		if got := Index(p, name); got != -1 {
			t.Errorf("Index of %q: %d", name, got)
		}
	}
	if !equal(p, kept) {
		t.Errorf("Index wrote into it: %#v", p)
	}
	for _, name := range []string{"", "a"} {
		if got := Index(Policy{}, name); got != -1 {
			t.Errorf("Index of %q of no levels: %d", name, got)
		}
	}
}

var (
	nothing    = regexp.MustCompile(`^([ \t]*|#.*)$`)
	levelLine  = regexp.MustCompile(`^level ([a-z0-9-]{1,20})$`)
	belowLine  = regexp.MustCompile(`^([a-z0-9-]+) < ([a-z0-9-]+)$`)
	endsOfLine = strings.NewReplacer("\r\n", "\n", "\r", "\n")
)

// described says Parse another way, of texts of fewer than MaxLevels lines.
func described(s string) (Policy, bool) {
	var p Policy
	for _, l := range strings.Split(endsOfLine.Replace(s), "\n") {
		if nothing.MatchString(l) {
			continue
		}
		if m := levelLine.FindStringSubmatch(l); m != nil && !slices.Contains(p.Names, m[1]) {
			p.Names = append(p.Names, m[1])
			continue
		}
		m := belowLine.FindStringSubmatch(l)
		if m == nil || m[1] == m[2] || !slices.Contains(p.Names, m[1]) || !slices.Contains(p.Names, m[2]) {
			return Policy{}, false
		}
		p.Below = append(p.Below, [2]int{slices.Index(p.Names, m[1]), slices.Index(p.Names, m[2])})
	}
	return p, len(p.Names) > 0
}

// checkDescribed holds Parse of s against described, and what it answers against Right, Write and Parse again.
func checkDescribed(t *testing.T, s string) {
	t.Helper()
	want, ok := described(s)
	got, e := Parse(s)
	if !equal(got, want) || ok != (e == api.OK) || !ok && e != api.ErrPolicy {
		t.Fatalf("Parse(%q): %#v, %d, not %#v, %v", s, got, e, want, ok)
	}
	text, written := Write(got)
	if Right(got) != ok || written != ok {
		t.Fatalf("Right and Write of Parse(%q): %v, %v", s, Right(got), written)
	}
	if !ok {
		return
	}
	if back, e := Parse(text); e != api.OK || !equal(back, got) {
		t.Fatalf("Parse of Write of Parse(%q): %#v, %d", s, back, e)
	}
}

// P401, P402: Parse of every short text of awkward lines, against the same said another way, and back by Write.
func TestParseOfAllLines(t *testing.T) {
	lines := []string{"level a\n", "level b\r", "level level\r\n", "a < b\n", "level < a\n", "b < level\n", "#\n", "\n", " #\n"}
	every.Text(lines, 5, func(s string) { checkDescribed(t, s) })
}

// P401, P402: Parse of every line of awkward pieces, against the same said another way, and back by Write.
func TestParseOfAllPieces(t *testing.T) {
	pieces := []string{"level", "a", "b", "-", "A", "<", " ", "\t", "\n", "#", "\r", "\x00", "\xff"}
	every.Text(pieces, 4, func(s string) {
		checkDescribed(t, s)
		checkDescribed(t, "level "+s)
		checkDescribed(t, "level a\nlevel b\n"+s)
		checkDescribed(t, "level a\nlevel b\na < "+s)
	})
}
