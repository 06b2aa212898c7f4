package line

import (
	"math"
	"slices"
	"strings"
	"testing"

	"bowdler/every"
)

// awkward are pieces of which lines are made: blanks, what looks like one, and bytes that are no part of a rune.
func awkward() []string {
	return []string{" ", "\t", "a", "\n", "é", "\xc3", "\u00a0"}
}

// P201: what stands in the chapter of Split, by examples.
func TestSplit(t *testing.T) {
	for _, c := range []struct {
		in   string
		want []string
	}{
		{"", nil},
		{"a", []string{"a"}},
		{"a\n", []string{"a"}},
		{"\n", []string{""}},
		{"\n\n", []string{"", ""}},
		{"\na", []string{"", "a"}},
		{"a\nb", []string{"a", "b"}},
		{"a\n\nb", []string{"a", "", "b"}},
		{"a\n\n\n", []string{"a", "", ""}},
		{"a\n ", []string{"a", " "}},
		{"a\n\t\n", []string{"a", "\t"}},
		// Nothing but an LF parts lines.
		{"a\rb\r\nc", []string{"a\rb\r", "c"}},
		{"a\vb\fc\u0085d\u2028e\x00f", []string{"a\vb\fc\u0085d\u2028e\x00f"}},
		// The low byte of these runes is an LF's.
		{"Ċ\n\u200a\n\U0001f60a", []string{"Ċ", "\u200a", "\U0001f60a"}},
		// Bytes that are no part of a rune.
		{"\xff\n\xc3\n\xa4", []string{"\xff", "\xc3", "\xa4"}},
		{"\xe2\x82\n\xac\n", []string{"\xe2\x82", "\xac"}},
	} {
		if got := Split(c.in); !slices.Equal(got, c.want) {
			t.Errorf("Split(%q): %q, not %q", c.in, got, c.want)
		}
	}
}

// P201: Split of every short text, against the same said another way, and back by Join.
func TestSplitOfAll(t *testing.T) {
	every.Text(awkward(), 6, func(s string) {
		want := strings.Split(s, "\n")
		if want[len(want)-1] == "" {
			want = want[:len(want)-1]
		}
		got := Split(s)
		if !slices.Equal(got, want) {
			t.Fatalf("Split(%q): %q, not %q", s, got, want)
		}
		whole := s
		if s != "" && !strings.HasSuffix(s, "\n") {
			whole += "\n"
		}
		if back := Join(got...); back != whole {
			t.Fatalf("Join of Split(%q): %q", s, back)
		}
	})
}

// P201: what is done to an answer is not seen in the next one.
func TestSplitIsNew(t *testing.T) {
	const s = "a\nb\n"
	first := Split(s)
	first[0] = "other"
	_ = append(first[:1], "more")
	if got := Split(s); !slices.Equal(got, []string{"a", "b"}) {
		t.Errorf("Split(%q) a second time: %q", s, got)
	}
}

// P201: what stands in the chapter of Join, by examples.
func TestJoin(t *testing.T) {
	for _, c := range []struct {
		in   []string
		want string
	}{
		{nil, ""},
		{[]string{}, ""},
		{[]string{""}, "\n"},
		{[]string{"", ""}, "\n\n"},
		{[]string{"a"}, "a\n"},
		{[]string{"a", "", "b"}, "a\n\nb\n"},
		{[]string{" a\t", "\xff"}, " a\t\n\xff\n"},
		// What has LFs already has one more.
		{[]string{"a\n", "b\nc"}, "a\n\nb\nc\n"},
	} {
		kept := slices.Clone(c.in)
		if got := Join(c.in...); got != c.want {
			t.Errorf("Join(%q): %q, not %q", c.in, got, c.want)
		}
		if !slices.Equal(c.in, kept) {
			t.Errorf("Join(%q) wrote into it: %q", kept, c.in)
		}
	}
}

// P201: what stands in the chapter of Blank, by examples.
func TestBlank(t *testing.T) {
	for _, s := range []string{"", " ", "\t", " \t ", "\t \t\t", strings.Repeat(" ", 99)} {
		if !Blank(s) {
			t.Errorf("Blank(%q): false", s)
		}
	}
	for _, s := range []string{"a", " a", "\ta", "a ", " \t.\t ", "\n", " \n", "\r", "\v", "\f", "\x00", "\u00a0", " \u2003", "\u3000", "\xff", " \x80", "Ġ", "ĉ"} {
		if Blank(s) {
			t.Errorf("Blank(%q): true", s)
		}
	}
}

// P201: of all bytes, a blank and a tab alone are Blank.
func TestBlankOfEachByte(t *testing.T) {
	for b := range 256 {
		s := string([]byte{byte(b)})
		if got := Blank(s); got != (b == 32 || b == 9) {
			t.Errorf("Blank(%q): %v", s, got)
		}
		if got := Blank(" " + s + "\t"); got != (b == 32 || b == 9) {
			t.Errorf("Blank of %q between blanks: %v", s, got)
		}
	}
}

// P202: what stands in the chapter of Expand, by examples.
func TestExpand(t *testing.T) {
	for _, c := range []struct{ in, want string }{
		{"", ""},
		{"a", "a"},
		{" a", " a"},
		{"     a", "     a"},
		// From each column up to the next stop.
		{"\ta", "    a"},
		{" \ta", "    a"},
		{"  \ta", "    a"},
		{"   \ta", "    a"},
		{"    \ta", "        a"},
		{"\t\ta", "        a"},
		{"\t \ta", "        a"},
		{"   \t a", "     a"},
		{"\t   \t\ta", "            a"},
		// Nothing but tabs and blanks.
		{"\t", "    "},
		{" ", " "},
		{" \t", "    "},
		{"\t ", "     "},
		{"  \t  \t", "        "},
		// Tabs behind another byte stay.
		{"a\t", "a\t"},
		{"\ta\tb", "    a\tb"},
		{" a \t b", " a \t b"},
		{"  \n\t", "  \n\t"},
		{"\t\r\t", "    \r\t"},
		{"\u00a0\t", "\u00a0\t"},
		{"\t\u2003\t", "    \u2003\t"},
		{"\t\xff\t", "    \xff\t"},
		{"\x00\t", "\x00\t"},
		{" \té\t", "    é\t"},
	} {
		if got := Expand(c.in); got != c.want {
			t.Errorf("Expand(%q): %q, not %q", c.in, got, c.want)
		}
	}
}

// P202: what stands in the chapter of Indent, by examples.
func TestIndent(t *testing.T) {
	for _, c := range []struct {
		in   string
		want int
	}{
		{" \ta", 4},
		{"", 0},
		{"a", 0},
		{"a b", 0},
		{" a", 1},
		{"   a b", 3},
		{"     a", 5},
		{"\ta", 4},
		{"   \ta", 4},
		{"    \ta", 8},
		{"\t a\t", 5},
		{"\t é", 5},
		{"\t\xff", 4},
		{" \u00a0", 1},
		{" \n ", 1},
		// Of a Blank one all.
		{" ", 1},
		{"      ", 6},
		{"\t", 4},
		{"  \t", 4},
		{"  \t ", 5},
	} {
		if got := Indent(c.in); got != c.want {
			t.Errorf("Indent(%q): %d, not %d", c.in, got, c.want)
		}
	}
}

// P202: what stands in the chapter of Strip, by examples.
func TestStrip(t *testing.T) {
	for _, c := range []struct {
		in   string
		n    int
		want string
	}{
		{"", 0, ""},
		{"", 3, ""},
		{"a", 0, "a"},
		{"a", 1, "a"},
		{"  a", 0, "  a"},
		{"  a", 1, " a"},
		{"  a", 2, "a"},
		{"  a", 3, "a"},
		{"a b", 1, "a b"},
		{" a  ", 4, "a  "},
		// A tab is taken in part.
		{"\ta", 0, "    a"},
		{"\ta", 1, "   a"},
		{"\ta", 3, " a"},
		{"\ta", 4, "a"},
		{"\ta", 5, "a"},
		{" \ta", 1, "   a"},
		{" \t\ta\t", 6, "  a\t"},
		// A second tab still ends where it ended in the whole line.
		{"  \ta", 2, "  a"},
		{"   \t\ta", 3, "     a"},
		// Blank lines.
		{"   ", 2, " "},
		{"   ", 9, ""},
		{"\t", 3, " "},
		{"\t", 4, ""},
		// Below 0 is as 0; as many as there are.
		{"  a", -1, "  a"},
		{"\ta", -4, "    a"},
		{"\ta", math.MinInt, "    a"},
		{"\ta", math.MinInt + 1, "    a"},
		{"  a", math.MaxInt, "a"},
		{"", math.MaxInt, ""},
		{"", math.MinInt, ""},
		// Nothing but blanks goes.
		{" \u00a0a", 2, "\u00a0a"},
		{" \n a", 3, "\n a"},
		{"\t\xff\t", 9, "\xff\t"},
	} {
		if got := Strip(c.in, c.n); got != c.want {
			t.Errorf("Strip(%q, %d): %q, not %q", c.in, c.n, got, c.want)
		}
	}
}

// expanded says Expand another way: blank by blank, tab by tab.
func expanded(s string) string {
	head := ""
	for s != "" && (s[0] == ' ' || s[0] == '\t') {
		head += " "
		for s[0] == '\t' && len(head)%4 != 0 {
			head += " "
		}
		s = s[1:]
	}
	return head + s
}

// P201, P202: of every short text Blank, Expand, Indent and Strip, against the same said another way.
func TestBlanksOfAll(t *testing.T) {
	every.Text(awkward(), 6, func(s string) {
		want := expanded(s)
		if got := Expand(s); got != want {
			t.Fatalf("Expand(%q): %q, not %q", s, got, want)
		}
		if Expand(want) != want {
			t.Fatalf("Expand of Expand(%q) is another one", s)
		}
		rest := strings.TrimLeft(want, " ")
		blanks := len(want) - len(rest)
		if got := Indent(s); got != blanks {
			t.Fatalf("Indent(%q): %d, not %d", s, got, blanks)
		}
		if got := Blank(s); got != (rest == "") {
			t.Fatalf("Blank(%q): %v", s, got)
		}
		for n := -2; n <= blanks+2; n++ {
			gone := min(max(n, 0), blanks)
			if got := Strip(s, n); got != want[gone:] {
				t.Fatalf("Strip(%q, %d): %q, not %q", s, n, got, want[gone:])
			}
		}
	})
}

// P202: of a long line, too, each blank and tab is asked once.
func TestLongLine(t *testing.T) {
	const n = 1 << 18
	s := strings.Repeat(" \t", n) + "\ta"
	if got := Indent(s); got != 4*n+4 {
		t.Errorf("Indent: %d", got)
	}
	if got := Strip(s, 4*n); got != "    a" {
		t.Errorf("Strip: %q", got)
	}
	if got := Expand(s); got != strings.Repeat(" ", 4*n+4)+"a" {
		t.Errorf("Expand: %d bytes", len(got))
	}
}
