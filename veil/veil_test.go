package veil

import (
	"regexp"
	"slices"
	"strings"
	"sync"
	"testing"

	"bowdler/api"
	"bowdler/every"
	"bowdler/lattice"
	"bowdler/line"
	"bowdler/policy"
	"bowdler/repair"
)

// diamond has two levels between two.
func diamond() policy.Policy {
	return policy.Policy{Names: []string{"low", "left", "right", "high"}, Below: [][2]int{{0, 1}, {0, 2}, {1, 3}, {2, 3}}}
}

// seen tells which labels a reader of the diamond sees: the chapter's words, by hand.
func seen(reader string) []string {
	switch reader {
	case "low":
		return []string{"low"}
	case "left", "right":
		return []string{"low", reader}
	}
	return []string{"low", "left", "right", "high", "odd", "odd2", ""}
}

// who is a reader that must be one.
func who(t *testing.T, p policy.Policy, name string) *Seer {
	t.Helper()
	s, e := New(p, name)
	if s == nil || e != api.OK {
		t.Fatalf("New(%v, %q): %v, %d", p, name, s != nil, e)
	}
	return s
}

// checkNone holds that there is no such reader.
func checkNone(t *testing.T, want api.Errno, p policy.Policy, name string) {
	t.Helper()
	if s, e := New(p, name); s != nil || e != want {
		t.Errorf("New(%v, %q): %v, %d, not %d", p, name, s != nil, e, want)
	}
}

// P701: policies that may not be, and no lattices, ahead of levels that there are not.
func TestNew(t *testing.T) {
	for _, name := range diamond().Names {
		who(t, diamond(), name)
	}
	for _, name := range []string{"", "odd", "Low", "low ", " low", "lo", "lows", "0", "low\nleft", "\xff", "level low"} {
		checkNone(t, api.ErrClearance, diamond(), name)
	}
	who(t, policy.Policy{Names: []string{"a"}}, "a")
	most := policy.Policy{}
	for k := range api.MaxLevels {
		most.Names = append(most.Names, "l"+strings.Repeat("x", k/8)+strings.Repeat("y", k%8))
		if k > 0 {
			most.Below = append(most.Below, [2]int{k - 1, k})
		}
	}
	who(t, most, most.Names[63])
	checkNone(t, api.ErrClearance, most, "x")
	more := policy.Policy{Names: append(slices.Clone(most.Names), "x"), Below: append(slices.Clone(most.Below), [2]int{63, 64})}
	for _, p := range []policy.Policy{
		{},
		{Below: [][2]int{{0, 1}}},
		{Names: []string{""}},
		{Names: []string{"x", "X"}, Below: [][2]int{{0, 1}}},
		{Names: []string{"x", "x"}, Below: [][2]int{{0, 1}}},
		{Names: []string{"x"}, Below: [][2]int{{0, 0}}},
		{Names: []string{"x", "a"}, Below: [][2]int{{0, 2}}},
		{Names: []string{"x", "a"}, Below: [][2]int{{-1, 0}}},
		{Names: []string{"x", "a"}, Below: [][2]int{{0, 1}, {1, 1}}},
		more,
		// Right, and no lattices.
		{Names: []string{"x", "a"}},
		{Names: []string{"x", "a"}, Below: [][2]int{{0, 1}, {1, 0}}},
		{Names: []string{"x", "a", "b"}, Below: [][2]int{{0, 1}, {0, 2}}},
		{Names: []string{"x", "a", "b"}, Below: [][2]int{{1, 0}, {2, 0}}},
	} {
		for _, name := range []string{"x", "a", "odd", ""} {
			checkNone(t, api.ErrPolicy, p, name)
		}
	}
}

// P701: which labels each reader of the diamond sees, alone and each two together.
func TestSees(t *testing.T) {
	labels := []string{"low", "left", "right", "high", "odd", "odd2", "", "Low", "low "}
	for _, reader := range diamond().Names {
		s := who(t, diamond(), reader)
		sees := func(label string) bool { return reader == "high" || slices.Contains(seen(reader), label) }
		if !s.Sees() {
			t.Errorf("%s does not see what has no labels", reader)
		}
		for _, a := range labels {
			if s.Sees(a) != sees(a) || s.Sees(a, a) != sees(a) {
				t.Errorf("%s sees %q: %v", reader, a, s.Sees(a))
			}
			for _, b := range labels {
				if s.Sees(a, b) != (sees(a) && sees(b)) || s.Sees("low", a, "low", b) != (sees(a) && sees(b)) {
					t.Errorf("%s sees %q and %q: %v", reader, a, b, s.Sees(a, b))
				}
			}
		}
	}
}

// P701: an unknown label is for the top, also where that is the only level, and wherever it stands.
func TestTop(t *testing.T) {
	if s := who(t, policy.Policy{Names: []string{"a"}}, "a"); !s.Sees("odd") || !s.Sees("a", "odd", "") {
		t.Error("the only level is not the top")
	}
	p := policy.Policy{Names: []string{"mid", "top", "bottom"}, Below: [][2]int{{0, 1}, {2, 0}}}
	for _, name := range p.Names {
		s := who(t, p, name)
		if s.Sees("odd") != (name == "top") || s.Sees("bottom", "odd") != (name == "top") || s.Sees("odd", "mid") != (name == "top") || s.Sees("mid") != (name != "bottom") || !s.Sees("bottom") {
			t.Errorf("%s, of three levels that are not in order", name)
		}
	}
}

// P701: policies of three to six levels: each reader, each three labels, against the join of their levels.
func TestSeesOfJoins(t *testing.T) {
	names := []string{"a", "b", "c", "d", "e", "f"}
	for _, c := range []struct {
		n     int
		below [][2]int
	}{
		{3, [][2]int{{0, 1}, {1, 2}}},
		{3, [][2]int{{2, 0}, {0, 1}}},
		{4, [][2]int{{0, 1}, {0, 2}, {1, 3}, {2, 3}}},
		{4, [][2]int{{3, 1}, {3, 2}, {1, 0}, {2, 0}}},
		{5, [][2]int{{0, 1}, {0, 2}, {0, 3}, {1, 4}, {2, 4}, {3, 4}}},
		{5, [][2]int{{0, 1}, {1, 2}, {0, 3}, {2, 4}, {3, 4}}},
		{6, [][2]int{{0, 1}, {0, 2}, {1, 3}, {2, 3}, {3, 4}, {4, 5}}},
		{6, [][2]int{{0, 1}, {0, 2}, {1, 3}, {1, 4}, {2, 4}, {3, 5}, {4, 5}}},
	} {
		order, e := lattice.New(c.n, c.below...)
		if e != api.OK {
			t.Fatalf("no lattice: %v", c.below)
		}
		for reader := range c.n {
			s := who(t, policy.Policy{Names: names[:c.n], Below: c.below}, names[reader])
			for k := range c.n * c.n * c.n {
				x, y, z := k%c.n, k/c.n%c.n, k/c.n/c.n
				if want := order.Leq(order.Join(order.Join(x, y), z), reader); s.Sees(names[x], names[y], names[z]) != want {
					t.Errorf("%v: %d sees %d, %d, %d: %v", c.below, reader, x, y, z, !want)
				}
			}
		}
	}
}

// P701: what is no level's name.
func TestUnknown(t *testing.T) {
	for _, reader := range diamond().Names {
		s := who(t, diamond(), reader)
		for _, name := range diamond().Names {
			if s.Unknown(name) {
				t.Errorf("%q is unknown to %s", name, reader)
			}
		}
		for _, label := range []string{"", "odd", "Low", "low ", " low", "lo", "lowleft", "é", "\xff", "0"} {
			if !s.Unknown(label) {
				t.Errorf("%q is known to %s", label, reader)
			}
		}
	}
}

// P702: a nil one, and one that was not made.
func TestNone(t *testing.T) {
	for _, s := range []*Seer{nil, {}} {
		for _, x := range []string{"", "a", "# a {=low}", "{|low:a|}", ":::{low}\na\n:::"} {
			if s.Sees() || s.Sees(x) || s.Sees("low", x) || s.Unknown(x) || s.Veil(x) != "" || s.Line(x) != "" || s.Line(x, "low") != "" {
				t.Errorf("none tells something of %q", x)
			}
		}
	}
}

// P701: nothing is written into the policy, and the reader does not hang on it afterwards.
func TestPolicyIsLeft(t *testing.T) {
	p := diamond()
	s := who(t, p, "left")
	if !slices.Equal(p.Names, diamond().Names) || !slices.Equal(p.Below, diamond().Below) {
		t.Errorf("New wrote into it: %v", p)
	}
	for i := range p.Names {
		p.Names[i] = "odd"
		p.Below[i] = [2]int{3, 0}
	}
	if !s.Sees("left") || s.Sees("right") || s.Sees("odd") || !s.Unknown("odd") || s.Unknown("high") {
		t.Error("the reader hangs on the policy that it was made of")
	}
}

// checkLine holds what Line answers, and that it is left as it is by another time.
func checkLine(t *testing.T, s *Seer, want, l string, under ...string) {
	t.Helper()
	if got := s.Line(l, under...); got != want {
		t.Errorf("Line(%q, %q): %q, not %q", l, under, got, want)
	}
	if got := s.Line(want, under...); got != want {
		t.Errorf("Line(%q, %q) again: %q", want, under, got)
	}
}

// P702: lines that hold nothing that is not seen stay, byte by byte.
func TestLineThatStays(t *testing.T) {
	s := who(t, diamond(), "left")
	for _, l := range []string{
		"", " ", "\t", "a", "  a b  ", "\x00\r\xff\xc3é", "a\nb",
		"{|left:b|}", "{|low: b |}c{|left:|}", "{|left:{|high:b|}", "{|left:a{=high}|}",
		"# A {=left}", "  ###### {=low}   ", "# {|low:a|} {=left}  ", "# {=high} {=left}",
		// What only looks like a span.
		"{|high", "{|high:", "{|high:a", "{|high:a|", "{|:a|}", "{|a b:c|}", "{|high\t:c|}", "{ |high:a|}", "{high:a|}", "{|" + strings.Repeat("a", 41) + ":b|}",
		// What only looks like a labelled heading.
		"A {=high}", "#A {=high}", "#\tA {=high}", "    # A {=high}", "####### A {=high}", "# A {=high}.", "# A {=}", "# A {=high", "# A", "# A {=high}\t", "\t# A {=high}", "# {=high} {=a b}", "# {=" + strings.Repeat("a", 41) + "}",
		// A division's signs are no line's.
		":::{high}", ":::", "::: ", ":::{high} ",
	} {
		checkLine(t, s, l, l)
		checkLine(t, s, l, l, "left", "low")
	}
}

// P702: spans that are not seen have no text; all else stays.
func TestLineOfSpans(t *testing.T) {
	s := who(t, diamond(), "left")
	for in, want := range map[string]string{
		"a {|high: b|} c":                      "a {|high:|} c",
		"{|high:a|}":                           "{|high:|}",
		"{|high:|}":                            "{|high:|}",
		"{|odd:a|}{|right:b|}{|left:c|}":       "{|odd:|}{|right:|}{|left:c|}",
		"{|right:a {|left:b|} c|}":             "{|right:|} c|}",
		"{|high:a|}|}":                         "{|high:|}|}",
		"{|high::a:|}":                         "{|high:|}",
		"{|high:a|b}c|}":                       "{|high:|}",
		"{|{|high:a|}":                         "{|{|high:|}",
		"{|\xff:\xff|}\xff":                    "{|\xff:|}\xff",
		"{|low\n:a\nb|}\n":                     "{|low\n:|}\n",
		"{|Low:a|} {|low:b|}":                  "{|Low:|} {|low:b|}",
		":::{|high:a b|}":                      ":::{|high:|}",
		"# A {|high:b|}":                       "# A {|high:|}",
		"# A {|high:b {=high}|}":               "# A {|high:|}",
		"# A {=high} {|high:b|}":               "# A {=high} {|high:|}",
		"# A {|left:b|} {|right:c|} {=left}  ": "# A {|left:b|} {|right:|} {=left}  ",
		"#\tA {|high:b|} {=high}":              "#\tA {|high:|} {=high}",
		strings.Repeat("{|high:a|}b", 1000):    strings.Repeat("{|high:|}b", 1000),
	} {
		checkLine(t, s, want, in)
		checkLine(t, s, want, in, "left")
		checkLine(t, who(t, diamond(), "high"), in, in, "odd")
	}
}

// P702: of a labelled heading that is not seen the signs are left.
func TestLineOfHeadings(t *testing.T) {
	s := who(t, diamond(), "left")
	for in, want := range map[string]string{
		"# A {=high}":                 "# {=high}",
		"# A {=odd}":                  "# {=odd}",
		"# A{=right}":                 "# {=right}",
		"# {=right}":                  "# {=right}",
		"#    {=right}":               "# {=right}",
		"   ###### A {=right}    ":    "   ###### {=right}",
		"  ## A {|left:b|} {=high}  ": "  ## {=high}",
		"# # {=right}":                "# {=right}",
		" ## ### # A ## {=right}":     " ## {=right}",
		"# A {=left} {=right}":        "# {=right}",
		"# A {=left}{=right} ":        "# {=right}",
		"# A {={=right}":              "# {=right}",
		"# \t\xff\x00é {=\xffé}":      "# {=\xffé}",
		"# A\nB {=high}":              "# {=high}",
		"# A {=low\n}":                "# {=low\n}",
		"# " + strings.Repeat("#", 1<<16) + " {=high}": "# {=high}",
	} {
		checkLine(t, s, want, in)
		checkLine(t, s, want, in, "left")
		checkLine(t, who(t, diamond(), "high"), in, in, "odd")
	}
	for blanks := range 4 {
		for signs := 1; signs <= 6; signs++ {
			sign := strings.Repeat(" ", blanks) + strings.Repeat("#", signs) + " "
			checkLine(t, s, sign+"{=high}", sign+"A  # {|left:b|} {=high} ")
		}
	}
}

// P702: what is around a line counts for all that has a label in it, and for nothing else.
func TestLineUnder(t *testing.T) {
	for _, c := range []struct {
		reader, in, want string
		under            []string
	}{
		{"left", "a {|left:b|} {|low:c|}", "a {|left:|} {|low:|}", []string{"right"}},
		{"left", "a {|left:b|} {|low:c|}", "a {|left:|} {|low:|}", []string{"low", "odd", "left"}},
		{"left", "a {|left:b|} {|low:c|}", "a {|left:b|} {|low:c|}", []string{"low", "left", "low"}},
		{"left", "a {|left:b|} {|right:c|}", "a {|left:b|} {|right:|}", []string{"left"}},
		{"low", "a {|low:b|}", "a {|low:|}", []string{"left"}},
		{"low", "a {|low:b|}", "a {|low:|}", []string{""}},
		{"high", "a {|left:b|} {|odd:c|}", "a {|left:b|} {|odd:c|}", []string{"right", "odd", ""}},
		{"left", "# a {=low}", "# {=low}", []string{"right"}},
		{"left", " # a {|low:b|} {=left} ", " # {=left}", []string{"left", "high"}},
		{"left", "# a {=low}", "# a {=low}", []string{"left"}},
		{"left", "# a {=right}", "# {=right}", []string{"left"}},
		{"high", "# {|odd:b|} {=odd}  ", "# {|odd:b|} {=odd}  ", []string{"odd"}},
		// What has no label is not asked for.
		{"left", "# a {|low:b|}", "# a {|low:|}", []string{"right"}},
		{"left", "a", "a", []string{"high"}},
		{"left", "# a", "# a", []string{"odd"}},
		{"left", "", "", []string{"right"}},
	} {
		checkLine(t, who(t, diamond(), c.reader), c.want, c.in, c.under...)
	}
}

// P701, P702: nothing is written into the labels that are handed in, nor behind them.
func TestLabelsAreLeft(t *testing.T) {
	s := who(t, diamond(), "left")
	all := []string{"low", "left", "kept", "kept"}
	for _, l := range []string{"# a {=left}", "# a {=high}", "{|left:a|}{|high:b|}"} {
		s.Line(l, all[:2]...)
		s.Sees(all[:1]...)
		if !slices.Equal(all, []string{"low", "left", "kept", "kept"}) {
			t.Errorf("Line(%q) wrote into the labels: %q", l, all)
		}
	}
}

const (
	labelForm = `([^{}|: \t]{1,40})`
	blanks    = ` *\z`
)

var (
	openForm  = regexp.MustCompile(`\A:::\{` + labelForm + `\}` + blanks)
	closeForm = regexp.MustCompile(`\A:::` + blanks)
	spanForm  = regexp.MustCompile(`(?s)\{\|` + labelForm + `:(.*?)\|\}`)
	headForm  = regexp.MustCompile(`(?s)\A( {0,3}#{1,6} ).*(\{=` + labelForm + `\})` + blanks)
)

// describedLine says Line another way, for a reader of the diamond.
func describedLine(reader, l string, under ...string) string {
	sees := func(label string) bool {
		all := append(slices.Clone(under), label)
		return !slices.ContainsFunc(all, func(x string) bool { return reader != "high" && !slices.Contains(seen(reader), x) })
	}
	if m := headForm.FindStringSubmatch(l); m != nil && !sees(m[3]) {
		return m[1] + m[2]
	}
	return spanForm.ReplaceAllStringFunc(l, func(span string) string {
		if label := spanForm.FindStringSubmatch(span)[1]; !sees(label) {
			return "{|" + label + ":|}"
		}
		return span
	})
}

// describedVeil says Veil another way, for a reader of the diamond: line by line, with the labels of what is open.
func describedVeil(reader, doc string) string {
	var out strings.Builder
	var under []string
	sees := func() bool { return describedLine(reader, "{|low:x|}", under...) == "{|low:x|}" }
	tell := func(l string) {
		if sees() {
			out.WriteString(l + "\n")
		}
	}
	for _, l := range line.Split(repair.Text(doc)) {
		if m := openForm.FindStringSubmatch(l); m != nil {
			tell(":::{" + m[1] + "}")
			under = append(under, m[1])
		} else if len(under) > 0 && closeForm.MatchString(l) {
			under = under[:len(under)-1]
			tell(":::")
		} else {
			tell(describedLine(reader, l, under...))
		}
	}
	return out.String()
}

// P702, P703: Line of every short line of awkward pieces, against the same said another way, and again.
func TestLineOfAll(t *testing.T) {
	left, high := who(t, diamond(), "left"), who(t, diamond(), "high")
	pieces := []string{"{|", "|}", ":", "{", "}", "{|odd:", "{|low:", "# ", "{=low}", "{=odd}", "a ", "\xff"}
	every.Text(pieces, 5, func(s string) {
		for _, under := range [][]string{nil, {"right"}} {
			want := describedLine("left", s, under...)
			if got := left.Line(s, under...); got != want {
				t.Fatalf("Line(%q, %q): %q, not %q", s, under, got, want)
			}
			if again := left.Line(want, under...); again != want {
				t.Fatalf("Line(%q, %q) again: %q", want, under, again)
			}
		}
		if got := high.Line(s, "odd"); got != s {
			t.Fatalf("Line(%q), for the top: %q", s, got)
		}
	})
}

// checkVeil holds what Veil answers, and (P703) that it is left as it is by another time.
func checkVeil(t *testing.T, s *Seer, want, doc string) {
	t.Helper()
	if got := s.Veil(doc); got != want {
		t.Errorf("Veil(%q): %q, not %q", doc, got, want)
	}
	if got := s.Veil(want); got != want {
		t.Errorf("Veil(%q) again: %q", want, got)
	}
}

// P702: what stands in the chapter of Veil, by examples.
func TestVeil(t *testing.T) {
	s := who(t, diamond(), "left")
	for in, want := range map[string]string{
		"":                  "",
		"\n":                "\n",
		"a":                 "a\n",
		"a\n\nb\n":          "a\n\nb\n",
		" a \t\n":           " a \t\n",
		"a {|high: b|} c":   "a {|high:|} c\n",
		"# A {=high}\ntext": "# {=high}\ntext\n",
		// By repair.Text.
		"a\r\nb\rc\x00\xff":                  "a\nb\nc\ufffd\ufffd\n",
		":::{right}\r\nx\r:::\r\ny":          ":::{right}\n:::\ny\n",
		":::{\x00}\nx\n:::":                  ":::{\ufffd}\n:::\n",
		"{|high:a\rb|}":                      "{|high:a\nb|}\n",
		"# A \xff {=\xff} \r\n{|\x00:\xff|}": "# {=\ufffd}\n{|\ufffd:|}\n",
		// Divisions that are seen.
		":::{left}\nx\n:::\ny":      ":::{left}\nx\n:::\ny\n",
		":::{left}   \nx\n:::  \ny": ":::{left}\nx\n:::\ny\n",
		":::{left}\n:::":            ":::{left}\n:::\n",
		":::{left}\nx":              ":::{left}\nx\n",
		":::{left}\n{|right:a|}\n# b {=high}\n:::\n{|odd:c|}": ":::{left}\n{|right:|}\n# {=high}\n:::\n{|odd:|}\n",
		// Divisions that are not.
		":::{right}\nx\n:::\ny":              ":::{right}\n:::\ny\n",
		":::{right}  \nx\n:::   \ny":         ":::{right}\n:::\ny\n",
		":::{right}\n:::":                    ":::{right}\n:::\n",
		":::{odd}\nx\n:::\n:::{odd}\ny\n:::": ":::{odd}\n:::\n:::{odd}\n:::\n",
		"a\n:::{high}\n\n:::\nb":             "a\n:::{high}\n:::\nb\n",
		// What lies in one that is not seen goes with it, whatever its label.
		":::{high}\nx\n:::{low}\ny\n:::\nz\n:::\nw":                           ":::{high}\n:::\nw\n",
		":::{right}\n:::{left}\nx\n:::\n:::{odd}\n:::\n:::":                   ":::{right}\n:::\n",
		":::{right}\n:::{low}\n:::{left}\nx\n:::\n:::\n:::\n:::{low}\ny\n:::": ":::{right}\n:::\n:::{low}\ny\n:::\n",
		// One that is not seen in one that is.
		":::{left}\n:::{right}\nx\n:::\ny\n:::\nz":                ":::{left}\n:::{right}\n:::\ny\n:::\nz\n",
		":::{left}\nw\n:::{right}\n:::{low}\nx\n:::\n:::\n:::\nz": ":::{left}\nw\n:::{right}\n:::\n:::\nz\n",
		// Not closed.
		":::{right}\nx":                              ":::{right}\n",
		":::{right}\nx\n:::{low}\ny":                 ":::{right}\n",
		":::{right}\nx\n:::{low}\ny\n:::\nz":         ":::{right}\n",
		":::{left}\nx\n:::{right}\ny\n":              ":::{left}\nx\n:::{right}\n",
		":::{left}\n:::{right}\nx\n:::\ny":           ":::{left}\n:::{right}\n:::\ny\n",
		":::{right}\n:::\n:::{left}\nx\n:::{odd}\ny": ":::{right}\n:::\n:::{left}\nx\n:::{odd}\n",
		// What would close one, where none is open, is a line, blanks and all.
		":::":                                  ":::\n",
		"::: \n:::{odd}\nx\n:::  \n:::  \n:::": "::: \n:::{odd}\n:::\n:::  \n:::\n",
		":::{left}\nx\n:::\n:::\n{|right:a|}":  ":::{left}\nx\n:::\n:::\n{|right:|}\n",
		// What only looks like a division.
		" :::{right}\nx\n:::":            " :::{right}\nx\n:::\n",
		":::{a b}\nx\n:::":               ":::{a b}\nx\n:::\n",
		":::{|high:a b|}\nx":             ":::{|high:|}\nx\n",
		":::{right}\nx\n:::\t\ny\n:::":   ":::{right}\n:::\n",
		"{|high:a\n:::{left}\n|}\n:::\n": "{|high:a\n:::{left}\n|}\n:::\n",
	} {
		checkVeil(t, s, want, in)
		if got := describedVeil("left", in); got != want {
			t.Errorf("the same said another way, of %q: %q", in, got)
		}
	}
}

// P702: each reader gets what is for that one.
func TestVeilForOthers(t *testing.T) {
	doc := ":::{left}\na {|right:b|}\n# c {=left}\n:::\n:::{right}\nd {|left:e|} {|low:f|}\n:::\n# {|low:g|} {=low}\n{|odd:h|}\n"
	checkVeil(t, who(t, diamond(), "low"), ":::{left}\n:::\n:::{right}\n:::\n# {|low:g|} {=low}\n{|odd:|}\n", doc)
	checkVeil(t, who(t, diamond(), "left"), ":::{left}\na {|right:|}\n# c {=left}\n:::\n:::{right}\n:::\n# {|low:g|} {=low}\n{|odd:|}\n", doc)
	checkVeil(t, who(t, diamond(), "right"), ":::{left}\n:::\n:::{right}\nd {|left:|} {|low:f|}\n:::\n# {|low:g|} {=low}\n{|odd:|}\n", doc)
	checkVeil(t, who(t, diamond(), "high"), doc, doc)
	checkVeil(t, who(t, policy.Policy{Names: []string{"all"}}, "all"), doc, doc)
}

// P702, P703: Veil of every short document of awkward lines, against the same said another way, and again.
func TestVeilOfAll(t *testing.T) {
	pieces := []string{"{|right:a|}{|left:b|}\n", "# c {=odd} \r", ":::\n", ":::  \n", ":::{left}\n", ":::{right} \n", ":::{low}\n"}
	readers := []string{"low", "left", "high"}
	var seers []*Seer
	for _, reader := range readers {
		seers = append(seers, who(t, diamond(), reader))
	}
	every.Text(pieces, 5, func(doc string) {
		for i, s := range seers {
			want := describedVeil(readers[i], doc)
			if got := s.Veil(doc); got != want {
				t.Fatalf("%s: Veil(%q): %q, not %q", readers[i], doc, got, want)
			}
			if got := s.Veil(want); got != want {
				t.Fatalf("%s: Veil(%q) again: %q", readers[i], want, got)
			}
			// Who sees more empties nothing that one does not.
			for _, other := range seers[i:] {
				if got := s.Veil(other.Veil(doc)); got != want {
					t.Fatalf("%s: Veil of another one's Veil of %q: %q", readers[i], doc, got)
				}
			}
		}
	})
}

// P703: documents that differ only in what is not seen have one veil.
func TestVeilHangsOnNothingElse(t *testing.T) {
	left := who(t, diamond(), "left")
	frames := []struct{ ahead, behind string }{
		{"a {|right:", "|} {|left:b|}\nc"},
		{"# ", " {=right}\nc"},
		{"   ## ", "{=odd}  \n# d {=left}"},
		{":::{right}\n", "\n:::\nc"},
		{":::{left}\n:::{odd}\n", "\n:::\nc {|high:d|}\n:::\ne"},
		{":::{left}\n:::{high}\n", "\n:::{low}\n"},
	}
	for _, f := range frames {
		want := left.Veil(f.ahead + f.behind)
		every.Text([]string{"a", " ", "#", "*", "[b]: c", "{|low:d", ":::{", "{=", "}", "\\", "`", "\x00", "\xff"}, 4, func(s string) {
			// What would be more than what is not seen.
			if strings.Contains(s, ":::{") && strings.Contains(s, "}") {
				return
			}
			if got := left.Veil(f.ahead + s + f.behind); got != want {
				t.Fatalf("Veil(%q): %q, not %q", f.ahead+s+f.behind, got, want)
			}
		})
	}
}

// P701, P702: a reader may be asked by several at a time, in any order, and always answers the same.
func TestTogether(t *testing.T) {
	s := who(t, diamond(), "left")
	doc := ":::{left}\na {|right:b|}\n:::{odd}\nc\n:::\n:::\n# d {=high}\n"
	want := describedVeil("left", doc)
	var all sync.WaitGroup
	got := make([]string, 8)
	for i := range got {
		all.Go(func() {
			for range 100 {
				got[i] = s.Veil(doc)
			}
		})
	}
	all.Wait()
	for _, veil := range got {
		if veil != want {
			t.Errorf("Veil, of several at a time: %q", veil)
		}
	}
}

// P702: as many divisions in one another as the limits let by: it would take minutes, if each line were held against all that are around it.
func TestDeep(t *testing.T) {
	const n = 1 << 16
	s := who(t, diamond(), "left")
	begins := strings.Repeat(":::{left}\n", n)
	lines := strings.Repeat("a {|right:b|}\n", n)
	emptied := strings.Repeat("a {|right:|}\n", n)
	ends := strings.Repeat(":::\n", n)
	same := func(what, doc, want string) {
		if got := s.Veil(doc); got != want {
			t.Errorf("Veil of %s: %d bytes, not %d", what, len(got), len(want))
		}
	}
	same("open ones", begins+lines, begins+emptied)
	same("closed ones", begins+lines+ends, begins+emptied+ends)
	same("one that is not seen, and all in it", ":::{odd}\n"+begins+lines+ends+":::\n"+lines, ":::{odd}\n:::\n"+emptied)
	same("the deepest one that is not seen", begins+":::{odd}\n"+lines+":::\n"+ends, begins+":::{odd}\n:::\n"+ends)
	under := slices.Repeat([]string{"left"}, n)
	l := strings.Repeat("{|left:a|}{|odd:b|}", n)
	if got := s.Line(l, under...); got != strings.Repeat("{|left:a|}{|odd:|}", n) {
		t.Errorf("Line of many spans under many labels: %d bytes", len(got))
	}
}
