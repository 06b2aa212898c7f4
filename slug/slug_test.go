package slug

import (
	"regexp"
	"strconv"
	"strings"
	"testing"
	"unicode/utf8"

	"bowdler/every"
	"bowdler/repair"
)

// check holds an answer against what is wanted.
func check[T comparable](t *testing.T, call, s string, got, want T) {
	t.Helper()
	if got != want {
		t.Errorf("%s(%.200q): %v, not %v", call, s, got, want)
	}
}

func many(s string, n int) string { return strings.Repeat(s, n) }

// P1601: what stands in the chapter of Of, by examples.
func TestOf(t *testing.T) {
	for s, want := range map[string]string{
		"a":           "a",
		"A b":         "a-b",
		"Az Za":       "az-za",
		"0 9":         "0-9",
		"2026":        "2026",
		"a1B2":        "a1b2",
		"The 1st Day": "the-1st-day",
		// Rows of other bytes.
		"a.b/c":          "a-b-c",
		"a -- b":         "a-b",
		"a-b":            "a-b",
		"a--b":           "a-b",
		"a_b":            "a-b",
		"a\tb\nc\r\nd":   "a-b-c-d",
		"a &amp; b":      "a-amp-b",
		"don't":          "don-t",
		"a\x00b":         "a-b",
		"a\x000\x00b":    "a-0-b",
		"a\x7fb\x01c":    "a-b-c",
		"a\u00a0\u3000b": "a-b",
		// None at the ends.
		" -a-  b- ": "a-b",
		"-a":        "a",
		"a-":        "a",
		"--a--":     "a",
		"*a*":       "a",
		"(1)":       "1",
		"éaé":       "a",
		"\xffa\xff": "a",
		// Letters and digits of other scripts, and bytes that are no part of a rune.
		"Ä1é2":              "1-2",
		"größe":             "gr-e",
		"Über uns":          "ber-uns",
		"x²":                "x",
		"a\u0663b":          "a-b",
		"ａｂ１":               "section",
		"a日本b":              "a-b",
		"a😀b":               "a-b",
		"a\xffb":            "a-b",
		"a\xc3\xffb\xe2":    "a-b",
		"a\xc3b":            "a-b",
		"a\ufffdb":          "a-b",
		"\u212aelvin":       "elvin", // its small letter is a k, but not by Fold
		"\u0130stanbul":     "stanbul",
		"\u017fa":           "a",
		"e\u0301":           "e",
		"a\u0301b":          "a-b",
		"x \ufeff y \u200b": "x-y",
		// Nothing is left.
		"":             "section",
		" ":            "section",
		"-":            "section",
		"---":          "section",
		"?!":           "section",
		"日本":           "section",
		"\x00":         "section",
		"\xff":         "section",
		"é":            "section",
		"\u00a0 \t\n":  "section",
		many("-", 100): "section",
		// Written like that one.
		"section":     "section",
		"Section!":    "section",
		" sec tion ":  "sec-tion",
		"section - 2": "section-2",
	} {
		check(t, "Of", s, Of(s), want)
	}
}

// P1601: how many bytes are left, and that no dash is the last one where it is cut.
func TestOfLength(t *testing.T) {
	for s, want := range map[string]string{
		many("a", 39):                        many("a", 39),
		many("a", 40):                        many("a", 40),
		many("a", 41):                        many("a", 40),
		many("a", 1000):                      many("a", 40),
		many("A", 40) + "-":                  many("a", 40),
		many("a", 40) + " b":                 many("a", 40),
		many("a", 39) + " b":                 many("a", 39),
		many("a", 39) + " -é- b":             many("a", 39),
		many("a", 39) + " ":                  many("a", 39),
		many("a", 38) + " b":                 many("a", 38) + "-b",
		many("a", 38) + " bc":                many("a", 38) + "-b",
		many("a", 38) + " b c":               many("a", 38) + "-b",
		many("a", 37) + " b c":               many("a", 37) + "-b",
		many("a", 37) + " b":                 many("a", 37) + "-b",
		many("ab ", 20):                      many("ab-", 13) + "a",
		many("a ", 20):                       many("a-", 19) + "a",
		many("a ", 21):                       many("a-", 19) + "a",
		"b" + many("a ", 20):                 "b" + many("a-", 19) + "a",
		"b" + many(" a", 20):                 "b" + many("-a", 19),
		many("-", 100) + many("a", 40):       many("a", 40),
		many(" ", 100) + many("a", 41) + " ": many("a", 40),
		many("é", 50) + "a":                  "a",
		"a" + many("é", 50) + "b":            "a-b",
		many("aé", 20) + "b":                 many("a-", 19) + "a",
		many("0123456789", 5):                many("0123456789", 4),
	} {
		check(t, "Of", s, Of(s), want)
	}
}

// P1601: of all bytes, and of all runes, those that stay.
func TestOfEachByteAndRune(t *testing.T) {
	one := func(sign, stays string) {
		wantAlone, wantBetween, wantEnd := "section", "x-y", "x"
		if stays != "" {
			wantAlone, wantBetween, wantEnd = stays, "x"+stays+"y", "x"+stays
		}
		check(t, "Of", sign, Of(sign), wantAlone)
		check(t, "Of", "x"+sign+"y", Of("x"+sign+"y"), wantBetween)
		check(t, "Of", "x"+sign, Of("x"+sign), wantEnd)
		check(t, "Of", sign+"x", Of(sign+"x"), stays+"x")
	}
	ascii := func(r rune) string {
		switch {
		case 'a' <= r && r <= 'z', '0' <= r && r <= '9':
			return string(r)
		case 'A' <= r && r <= 'Z':
			return string(r + 'a' - 'A')
		}
		return ""
	}
	for b := range 256 {
		one(string([]byte{byte(b)}), ascii(rune(b)))
	}
	for r := range rune(utf8.MaxRune + 1) {
		one(string(r), ascii(r))
	}
}

// Of said another way.
var others = regexp.MustCompile(`[^a-z0-9]+`)

func wantOf(s string) string {
	id := strings.Trim(others.ReplaceAllString(repair.Fold(s), "-"), "-")
	id = strings.TrimRight(id[:min(40, len(id))], "-")
	if id == "" {
		return "section"
	}
	return id
}

// P1601: every short text of awkward pieces, and many about as long as an anchor may be.
func TestOfAll(t *testing.T) {
	hold := func(s string) {
		if !t.Failed() {
			check(t, "Of", s, Of(s), wantOf(s))
			check(t, "Of", Of(s), Of(Of(s)), Of(s))
		}
	}
	every.Text([]string{"a", "Z", "0", "9", "-", " ", "\n", "_", "{", "`", "/", ":", "@", "[", "É", "\xc3", "\x89", "\x00", "\u00a0"}, 4, hold)
	for n := 34; n < 43; n++ {
		every.Text([]string{"a", "B", "-", " ", "é", "\xff"}, 5, func(s string) {
			hold(many("x", n) + s)
			hold(s + many("y", n) + s)
		})
	}
}

// P1601: texts one behind the other, by what is told of each.
func TestNext(t *testing.T) {
	for _, c := range []struct{ texts, want []string }{
		{[]string{"A b", "a B!"}, []string{"a-b", "a-b-2"}},
		{[]string{"a", "a", "A", "-a-"}, []string{"a", "a-2", "a-3", "a-4"}},
		{[]string{"a", "b", "a", "b", "c"}, []string{"a", "b", "a-2", "b-2", "c"}},
		// One that is told as it is has a number already.
		{[]string{"a 2", "a", "a", "a"}, []string{"a-2", "a", "a-3", "a-4"}},
		{[]string{"a", "a", "a 2", "a 2"}, []string{"a", "a-2", "a-2-2", "a-2-3"}},
		{[]string{"a-2-2", "a", "a", "a-2"}, []string{"a-2-2", "a", "a-2", "a-2-3"}},
		{[]string{"a", "a-3", "a", "a", "a-3"}, []string{"a", "a-3", "a-2", "a-4", "a-3-2"}},
		{[]string{"a-3", "a-2", "a-5", "a", "a", "a", "a"}, []string{"a-3", "a-2", "a-5", "a", "a-4", "a-6", "a-7"}},
		{[]string{"a-1", "a-0", "a", "a", "a"}, []string{"a-1", "a-0", "a", "a-2", "a-3"}},
		{[]string{"a-02", "a", "a"}, []string{"a-02", "a", "a-2"}},
		{[]string{"a", "a", "a", "a-4", "a"}, []string{"a", "a-2", "a-3", "a-4", "a-5"}},
		{[]string{"2", "2", "2-2"}, []string{"2", "2-2", "2-2-2"}},
		{[]string{"a2", "a", "a"}, []string{"a2", "a", "a-2"}},
		// Nothing is left of some.
		{[]string{"", "?", "section", "日本", "section 2"}, []string{"section", "section-2", "section-3", "section-4", "section-2-2"}},
		{[]string{"Section", ""}, []string{"section", "section-2"}},
		// A number stands behind all 40 bytes.
		{[]string{many("a", 40), many("a", 41), many("a", 40) + " 2"}, []string{many("a", 40), many("a", 40) + "-2", many("a", 40) + "-3"}},
		{[]string{many("a", 39) + " b", many("a", 39)}, []string{many("a", 39), many("a", 39) + "-2"}},
		{[]string{many("a", 38) + " 2", many("a", 38), many("a", 38)}, []string{many("a", 38) + "-2", many("a", 38), many("a", 38) + "-3"}},
	} {
		var a Anchors
		for i, s := range c.texts {
			check(t, "Has", c.want[i], a.Has(c.want[i]), false)
			check(t, "Next", strings.Join(c.texts[:i+1], "|"), a.Next(s), c.want[i])
			check(t, "Has", c.want[i], a.Has(c.want[i]), true)
		}
	}
}

// P1601: numbers of more than one digit.
func TestNextOfMany(t *testing.T) {
	var a Anchors
	a.Next("a 11")
	a.Next("a 100")
	check(t, "Next", "a", a.Next("a"), "a")
	n := 2
	for range 200 {
		if n == 11 || n == 100 {
			n++
		}
		check(t, "Next", "a", a.Next("a"), "a-"+strconv.Itoa(n))
		n++
	}
}

// P1601: what was told is there, and only that, as it was told.
func TestHas(t *testing.T) {
	a := &Anchors{}
	for _, id := range []string{"", "a", "section", "a-2"} {
		check(t, "Has", id, a.Has(id), false)
	}
	a.Next("A b")
	a.Next("A b")
	a.Next("")
	for _, id := range []string{"a-b", "a-b-2", "section"} {
		check(t, "Has", id, a.Has(id), true)
	}
	for _, id := range []string{"", "A b", "a b", "A-b", "a-b-", "-a-b", "a-b-1", "a-b-3", "a-b-02", "a", "b", "a-", "section-2", "a-b\x00", "s-a-b", "#a-b"} {
		check(t, "Has", id, a.Has(id), false)
	}
	// To ask for one tells none.
	check(t, "Has", "c", a.Has("c"), false)
	check(t, "Next", "c", a.Next("c"), "c")
	// Nor is a text one that Of alone told.
	check(t, "Of", "d", Of("d"), "d")
	check(t, "Has", "d", a.Has("d"), false)
	check(t, "Next", "d", a.Next("d"), "d")
}

// wantNext tells, and keeps, what Next asks for, one number after the other.
func wantNext(told map[string]bool, s string) string {
	id := wantOf(s)
	for n := 2; told[id]; n++ {
		id = wantOf(s) + "-" + strconv.Itoa(n)
	}
	told[id] = true
	return id
}

// P1601: every short row of awkward texts, one by one, against a set of what was told.
func TestNextOfRows(t *testing.T) {
	texts := []string{"a", "A-", "a 2", "a-3", "a 2 2", "", "section-2", "a-2-3"}
	every.Text([]string{"0", "1", "2", "3", "4", "5", "6", "7"}, 6, func(row string) {
		if t.Failed() {
			return
		}
		var a Anchors
		told := map[string]bool{}
		for _, k := range row {
			s := texts[k-'0']
			want := wantNext(told, s)
			check(t, "Next", row+" "+s, a.Next(s), want)
		}
		for _, id := range []string{"a", "a-2", "a-3", "a-4", "a-5", "a-2-2", "a-2-3", "a-2-4", "a-3-2", "section", "section-2", "section-3", "section-2-2", ""} {
			check(t, "Has", row+" "+id, a.Has(id), told[id])
		}
	})
}

// P1601: what one has told is nothing to another.
func TestNextOwn(t *testing.T) {
	var a, b Anchors
	check(t, "Next", "a", a.Next("a"), "a")
	check(t, "Has", "a", b.Has("a"), false)
	check(t, "Next", "a", b.Next("a"), "a")
	check(t, "Next", "a", b.Next("a"), "a-2")
	check(t, "Has", "a-2", a.Has("a-2"), false)
	check(t, "Next", "a", a.Next("a"), "a-2")
}

// P1601: none tells nothing, and has nothing.
func TestNone(t *testing.T) {
	var none *Anchors
	for range 2 {
		for _, s := range []string{"a", "", "section", "A b"} {
			check(t, "Next", s, none.Next(s), "")
			check(t, "Has", s, none.Has(s), false)
			check(t, "Has", Of(s), none.Has(Of(s)), false)
		}
	}
}

// P1601: of long texts, too, each byte is asked a few times, and of many that are the same no number is tried again and again.
func TestLong(t *testing.T) {
	const n = 1 << 20
	check(t, "Of", "long", Of(many("a", n)), many("a", 40))
	check(t, "Of", "long", Of(many("- é\xff", n)), "section")
	check(t, "Of", "long", Of(many("-", n)+"a"+many(" ", n)+"b"+many("\xff", n)), "a-b")
	check(t, "Of", "long", Of(many("a ", n)), many("a-", 19)+"a")
	var a Anchors
	for k := 2; k < n/4; k += 2 {
		id := "a-" + strconv.Itoa(k)
		check(t, "Next", id, a.Next(id), id)
	}
	check(t, "Next", "a", a.Next("a"), "a")
	for k := 3; k < n/2; k++ {
		if k%2 == 0 && k < n/4 {
			continue
		}
		check(t, "Next", "a", a.Next("A"), "a-"+strconv.Itoa(k))
	}
}
