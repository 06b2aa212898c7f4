package frame

import (
	"math"
	"regexp"
	"slices"
	"strings"
	"testing"

	"bowdler/api"
	"bowdler/every"
)

// run is a run of lines.
func run(depth int, lines ...string) api.Part { return api.Part{Depth: depth, Lines: lines} }

// div is a division that is closed.
func div(depth int, label string) api.Part { return api.Part{Depth: depth, Div: true, Label: label} }

// open is a division that is not.
func open(depth int, label string) api.Part {
	return api.Part{Depth: depth, Div: true, Label: label, Open: true}
}

func samePart(a, b api.Part) bool {
	return a.Depth == b.Depth && a.Div == b.Div && a.Label == b.Label && a.Open == b.Open && slices.Equal(a.Lines, b.Lines)
}

func sameParts(a, b []api.Part) bool { return slices.EqualFunc(a, b, samePart) }

// copied are parts in memory of their own.
func copied(p []api.Part) []api.Part {
	p = slices.Clone(p)
	for i := range p {
		p[i].Lines = slices.Clone(p[i].Lines)
	}
	return p
}

// long is a label of so many bytes.
func long(n int) string { return strings.Repeat("a", n) }

// checkParse holds what Parse answers of lines against parts, and that they are Right, if no line has an LF.
func checkParse(t *testing.T, lines []string, want ...api.Part) {
	t.Helper()
	kept := slices.Clone(lines)
	got := Parse(lines...)
	if !sameParts(got, want) {
		t.Errorf("Parse(%q): %#v, not %#v", lines, got, want)
	}
	if may := !strings.Contains(strings.Join(lines, ""), "\n"); Right(got...) != may {
		t.Errorf("Right of Parse(%q): %v", lines, !may)
	}
	if !slices.Equal(lines, kept) {
		t.Errorf("Parse(%q) wrote into it: %q", kept, lines)
	}
}

// P601: what stands in the chapter of Parse, by examples.
func TestParse(t *testing.T) {
	for _, c := range []struct {
		lines []string
		want  []api.Part
	}{
		{nil, nil},
		{[]string{"a", ":::{x}", "b", ":::"}, []api.Part{run(0, "a"), div(0, "x"), run(1, "b")}},
		{[]string{""}, []api.Part{run(0, "")}},
		{[]string{"a", "", " ", "b"}, []api.Part{run(0, "a", "", " ", "b")}},
		{[]string{":::{x}"}, []api.Part{open(0, "x")}},
		{[]string{":::{x}", ":::"}, []api.Part{div(0, "x")}},
		{[]string{":::{x}", "", ":::", ""}, []api.Part{div(0, "x"), run(1, ""), run(0, "")}},
		// Beside each other, and within one another.
		{[]string{":::{x}", "a", ":::", ":::{x}", "b", ":::"}, []api.Part{div(0, "x"), run(1, "a"), div(0, "x"), run(1, "b")}},
		{[]string{":::{x}", ":::{y}", "a", ":::", "b", ":::", "c"}, []api.Part{div(0, "x"), div(1, "y"), run(2, "a"), run(1, "b"), run(0, "c")}},
		{[]string{":::{x}", ":::{y}", ":::{z}", ":::", ":::", ":::", "a"}, []api.Part{div(0, "x"), div(1, "y"), div(2, "z"), run(0, "a")}},
		{[]string{":::{x}", "a", ":::{y}", "b", ":::", "c", ":::{y}", "d"}, []api.Part{open(0, "x"), run(1, "a"), div(1, "y"), run(2, "b"), run(1, "c"), open(1, "y"), run(2, "d")}},
		// Not closed.
		{[]string{":::{x}", ":::{y}", "a"}, []api.Part{open(0, "x"), open(1, "y"), run(2, "a")}},
		{[]string{":::{x}", ":::{y}", "a", ":::"}, []api.Part{open(0, "x"), div(1, "y"), run(2, "a")}},
		{[]string{":::{x}", ":::", ":::{y}", ":::{z}", ":::"}, []api.Part{div(0, "x"), open(0, "y"), div(1, "z")}},
		// What would close one, where none is open.
		{[]string{":::"}, []api.Part{run(0, ":::")}},
		{[]string{"a", ":::  ", ":::"}, []api.Part{run(0, "a", ":::  ", ":::")}},
		{[]string{":::{x}", ":::", ":::", "a"}, []api.Part{div(0, "x"), run(0, ":::", "a")}},
		{[]string{":::", ":::{x}", ":::", ":::"}, []api.Part{run(0, ":::"), div(0, "x"), run(0, ":::")}},
		// Blanks behind the signs.
		{[]string{":::{x} ", "a", ":::     "}, []api.Part{div(0, "x"), run(1, "a")}},
	} {
		checkParse(t, c.lines, c.want...)
	}
}

// labels tells texts that may be labels.
func labels() []string {
	return []string{
		"a", "A", "0", "-", "=", "#", "a-b", "É\"=", "ä", "€", "\xff", "\xc3", "\x80\x80", "\x00", "\r", "\v", "\f", "\u00a0", "a\u3000b", "[]()<>&", "none",
		long(39), long(40), strings.Repeat("é", 20), strings.Repeat("€", 13) + "a", strings.Repeat("\xff", 40), strings.Repeat("😀", 10),
		// Runes whose low byte is that of a sign that none may have.
		"\u017b", "\u017d", "\u017c", "\u013a", "\u0120", "\u0109", "\U0001f47b",
	}
}

// noLabels tells texts that may not.
func noLabels() []string {
	return []string{
		"", "{", "}", "|", ":", " ", "\t", "a b", " a", "a ", "a\t", "\ta", "a:b", ":a", "a:", "a|b", "a|", "|a", "{a", "a{", "}a", "a}", "a{b", "a}b", "{|", "|}", "\xff{", "\xc3}", "\xe2\x82|", "\xf0 ",
		long(41), long(42), long(1 << 12), long(39) + "é", strings.Repeat("é", 21), strings.Repeat("€", 14), strings.Repeat("\xff", 41), strings.Repeat("😀", 11), long(40) + ":", long(40) + " ",
	}
}

// P601, P602: one rule holds for the labels of divisions, spans and headings.
func TestLabels(t *testing.T) {
	for _, label := range labels() {
		checkParse(t, []string{":::{" + label + "}", "a", ":::"}, div(0, label), run(1, "a"))
		checkSpans(t, "a{|"+label+":b|}c", Piece{Text: "a"}, Piece{Span: true, Label: label, Text: "b"}, Piece{Text: "c"})
		checkHeading(t, "# a {="+label+"}", "# a ", label)
		if !Right(div(0, label)) {
			t.Errorf("Right of a division %q: false", label)
		}
	}
	for _, label := range noLabels() {
		checkParse(t, []string{":::{" + label + "}"}, run(0, ":::{"+label+"}"))
		checkNoHeading(t, "# a {="+label+"}")
		if Right(div(0, label)) || Right(open(0, label)) {
			t.Errorf("Right of a division %q: true", label)
		}
		// A colon ends a label, and a span may begin in what is none.
		if !strings.ContainsAny(label, ":") && !strings.HasSuffix(label, "{|") && label != "|}" {
			s := "a{|" + label + ":b|}c"
			checkSpans(t, s, Piece{Text: s})
		}
	}
}

// P601: of all bytes, six may not stand in a label.
func TestLabelsOfEachByte(t *testing.T) {
	for b := range 256 {
		may := strings.IndexByte("{}|: \t", byte(b)) < 0
		for _, label := range []string{string([]byte{byte(b)}), string([]byte{'x', byte(b), 'y'}), string([]byte{0xc3, byte(b)})} {
			parts := Parse(":::{" + label + "}")
			if may != (len(parts) == 1 && parts[0].Div && parts[0].Label == label) {
				t.Errorf("a division %q: %v", label, !may)
			}
			if _, got, ok := Heading("# {=" + label + "}"); ok != may || may && got != label {
				t.Errorf("a heading %q: %q, %v", label, got, ok)
			}
			if pieces := Spans("{|" + label + ":|}"); b != ':' && may != (len(pieces) == 1 && pieces[0] == Piece{Span: true, Label: label}) {
				t.Errorf("a span %q: %v", label, pieces)
			}
		}
	}
}

// P601: lines that only look like the signs of a division.
func TestParseOfLike(t *testing.T) {
	for _, s := range []string{
		" :::{x}", "\t:::{x}", ":::{x}\t", ":::{x} \t", ":::{x}\u00a0", ":::{x}y", ":::{x} y", ":::{x}}", ":::{x}:::", ":::{x", ":::{x ", ":::x}", "::: {x}", ":::\t{x}", "::::{x}", "::{x}", ":{x}", "{x}", ":::{{x}}", ":::{ x}", ":::{x }", ":::[x]", ":::(x)", "a:::{x}", ":::{x}\r", ":::{=x}y", ":::{x}\n", "\n:::{x}", ":::{x}\n:::",
		"::", "::::", ":::::", ": : :", "::: :", "::: x", ":::x", " :::", "\t:::", ":::\t", "::: \t", ":::\u00a0", ":::\r", ":::\n", "\n:::", ":::{}", ":::}", ":::{", "：：：",
	} {
		checkParse(t, []string{s, "a"}, run(0, s, "a"))
		if strings.Contains(s, "\n") {
			continue
		}
		checkParse(t, []string{":::{y}", s, ":::", s}, div(0, "y"), run(1, s), run(0, s))
	}
}

// P601: what is done to an answer is not seen in another one, nor in the lines, nor in another run.
func TestParseIsNew(t *testing.T) {
	lines := []string{"a", "b", ":::{x}", "c", ":::", "d"}
	want := []api.Part{run(0, "a", "b"), div(0, "x"), run(1, "c"), run(0, "d")}
	first := Parse(lines...)
	for i, part := range first {
		for k := range part.Lines {
			first[i].Lines[k] = "other"
		}
		_ = append(first[i].Lines, "more", "more")
		_ = append(first[i].Lines[:0], "again")
	}
	for i, part := range first {
		for _, s := range part.Lines[min(1, len(part.Lines)):] {
			if s != "other" {
				t.Errorf("run %d shares its lines: %q", i, part.Lines)
			}
		}
	}
	first[1].Label = "other"
	checkParse(t, lines, want...)
	second := Parse(lines...)
	lines[0], lines[2] = "other", "other"
	if !sameParts(second, want) {
		t.Errorf("the parts hang on the lines: %v", second)
	}
	parts := copied(want)
	written, _ := Write(parts...)
	parts[0].Lines[0], parts[1].Label = "other", "other"
	if !slices.Equal(written, []string{"a", "b", ":::{x}", "c", ":::", "d"}) {
		t.Errorf("the lines hang on the parts: %q", written)
	}
}

// checkWrite holds Right and Write of parts against lines.
func checkWrite(t *testing.T, want []string, p ...api.Part) {
	t.Helper()
	kept := copied(p)
	if !Right(p...) {
		t.Errorf("Right(%#v): false", p)
	}
	if got, ok := Write(p...); !ok || !slices.Equal(got, want) {
		t.Errorf("Write(%#v): %q, %v, not %q", p, got, ok, want)
	}
	if !sameParts(p, kept) {
		t.Errorf("Right or Write wrote into %#v: %#v", kept, p)
	}
}

// checkWrong holds that parts may not be.
func checkWrong(t *testing.T, p ...api.Part) {
	t.Helper()
	kept := copied(p)
	if Right(p...) {
		t.Errorf("Right(%#v): true", p)
	}
	if got, ok := Write(p...); ok || got != nil {
		t.Errorf("Write(%#v): %q, %v", p, got, ok)
	}
	if !sameParts(p, kept) {
		t.Errorf("Right or Write wrote into %#v: %#v", kept, p)
	}
}

// P601: what stands in the chapter of Write, by examples.
func TestWrite(t *testing.T) {
	checkWrite(t, nil)
	checkWrite(t, []string{"a", ":::{x}", "b", ":::"}, run(0, "a"), div(0, "x"), run(1, "b"))
	checkWrite(t, []string{""}, run(0, ""))
	checkWrite(t, []string{":::", "a", "::: "}, run(0, ":::", "a", "::: "))
	checkWrite(t, []string{":::{x}", ":::", ":::"}, div(0, "x"), run(0, ":::"))
	checkWrite(t, []string{":::{x}"}, open(0, "x"))
	checkWrite(t, []string{":::{x}", ":::{y}", ":::", "a"}, open(0, "x"), div(1, "y"), run(1, "a"))
	checkWrite(t, []string{":::{x}", ":::{y}", "a"}, open(0, "x"), open(1, "y"), run(2, "a"))
	checkWrite(t, []string{":::{x}", "a", ":::{y}", ":::", ":::{z}", "b"}, open(0, "x"), run(1, "a"), div(1, "y"), open(1, "z"), run(2, "b"))
	// Several that end at one place, and at the end of all.
	checkWrite(t, []string{":::{x}", ":::{y}", ":::{z}", "a", ":::", ":::", ":::", "b"}, div(0, "x"), div(1, "y"), div(2, "z"), run(3, "a"), run(0, "b"))
	checkWrite(t, []string{":::{x}", ":::{y}", "a", ":::", "b", ":::", "c"}, div(0, "x"), div(1, "y"), run(2, "a"), run(1, "b"), run(0, "c"))
	checkWrite(t, []string{":::{w}", ":::{x}", ":::{y}", "a", ":::", ":::"}, open(0, "w"), div(1, "x"), div(2, "y"), run(3, "a"))
	checkWrite(t, []string{":::{x}", ":::{y}", ":::", ":::", ":::{z}", ":::"}, div(0, "x"), div(1, "y"), div(0, "z"))
	// A list of lines that is empty, and not nil, is none.
	checkWrite(t, []string{":::{x}", ":::"}, api.Part{Div: true, Label: "x", Lines: []string{}})
}

// P601: parts that may not be, each by itself.
func TestWrongParts(t *testing.T) {
	for _, p := range []api.Part{
		{},
		{Lines: []string{}},
		{Label: "x"},
		{Open: true},
		{Lines: []string{"a"}, Label: "x"},
		{Lines: []string{"a"}, Label: " "},
		{Lines: []string{"a"}, Open: true},
		{Div: true},
		{Div: true, Open: true},
		{Div: true, Lines: []string{"a"}},
		{Div: true, Label: "x", Lines: []string{"a"}},
		{Div: true, Label: "x", Lines: []string{""}},
		{Div: true, Label: "x", Lines: []string{"a"}, Open: true},
		run(0, ":::{x}"),
		run(0, ":::{x}  "),
		run(0, "a", ":::{x}", "b"),
		run(0, "a", "b", ":::{é}"),
		run(0, "\n"),
		run(0, "a\n"),
		run(0, "a", "\nb"),
		run(0, "a", "b\nc"),
		run(0, ":::\n"),
		div(0, "a\nb"),
		open(0, "\n"),
		run(1, "a"),
		run(-1, "a"),
		div(1, "x"),
		open(1, "x"),
		div(-1, "x"),
		run(math.MaxInt, "a"),
		run(math.MinInt, "a"),
		div(math.MaxInt, "x"),
		div(math.MinInt, "x"),
	} {
		checkWrong(t, p)
		checkWrong(t, run(0, "a"), p)
		checkWrong(t, p, div(0, "y"))
		if p.Depth == 0 {
			p.Depth = 1
			checkWrong(t, div(0, "y"), p)
			checkWrong(t, open(0, "y"), p)
		}
	}
}

// P601: runs within divisions have no line that closes one.
func TestWrongEnds(t *testing.T) {
	for _, s := range []string{":::", "::: ", ":::     "} {
		checkWrong(t, div(0, "x"), run(1, s))
		checkWrong(t, open(0, "x"), run(1, "a", s))
		checkWrong(t, div(0, "x"), div(1, "y"), run(2, s, "a"))
		checkWrong(t, div(0, "x"), div(1, "y"), run(1, s))
		checkWrite(t, []string{":::{x}", ":::", s}, div(0, "x"), run(0, s))
	}
	for _, s := range []string{":::\t", "::::", " :::", "::", "::: a", ":::{}"} {
		checkWrite(t, []string{":::{x}", s, ":::"}, div(0, "x"), run(1, s))
	}
}

// P601: how deep parts may lie behind one another.
func TestDepths(t *testing.T) {
	ahead := []api.Part{div(0, "x"), div(1, "y"), div(2, "z")}
	for depth := -2; depth < 7; depth++ {
		for _, c := range []struct {
			last, next api.Part
			most       int
		}{
			{div(3, "a"), div(depth, "b"), 4},
			{div(3, "a"), run(depth, "b"), 4},
			{run(3, "a"), div(depth, "b"), 3},
			{run(3, "a"), run(depth, "b"), 2},
		} {
			p := append(slices.Clone(ahead), c.last, c.next)
			if want := 0 <= depth && depth <= c.most; Right(p...) != want {
				t.Errorf("Right(%v): %v", p, !want)
			}
		}
	}
	for _, depth := range []int{math.MinInt, math.MaxInt} {
		for _, last := range []api.Part{div(3, "a"), run(3, "a")} {
			checkWrong(t, append(slices.Clone(ahead), last, div(depth, "b"))...)
			checkWrong(t, append(slices.Clone(ahead), last, run(depth, "b"))...)
		}
	}
}

// P601: where divisions may lie that are not closed.
func TestOpen(t *testing.T) {
	checkWrong(t, open(0, "x"), run(0, "a"))
	checkWrong(t, open(0, "x"), div(0, "y"))
	checkWrong(t, open(0, "x"), open(0, "y"))
	checkWrong(t, open(0, "x"), run(1, "a"), run(0, "b"))
	checkWrong(t, open(0, "x"), open(1, "y"), run(1, "a"))
	checkWrong(t, open(0, "x"), open(1, "y"), run(2, "a"), div(1, "z"))
	checkWrong(t, open(0, "x"), div(1, "y"), run(0, "a"))
	checkWrong(t, div(0, "x"), open(1, "y"))
	checkWrong(t, div(0, "x"), open(1, "y"), run(2, "a"))
	checkWrong(t, open(0, "x"), div(1, "y"), open(2, "z"))
	checkWrong(t, div(0, "x"), div(1, "y"), open(2, "z"))
	checkWrite(t, []string{":::{x}", ":::", ":::{y}"}, div(0, "x"), open(0, "y"))
	checkWrite(t, []string{":::{x}", ":::{y}", ":::", ":::{z}"}, open(0, "x"), div(1, "y"), open(1, "z"))
}

const (
	labelForm = `([^{}|: \t]{1,40})`
	blanks    = ` *\z`
)

var (
	openForm  = regexp.MustCompile(`\A:::\{` + labelForm + `\}` + blanks)
	closeForm = regexp.MustCompile(`\A:::` + blanks)
	spanForm  = regexp.MustCompile(`(?s)\{\|` + labelForm + `:(.*?)\|\}`)
	headForm  = regexp.MustCompile(`(?s)\A( {0,3}#{1,6} .*)\{=` + labelForm + `\}` + blanks)
)

// describedParse says Parse another way: each division looks for its own end.
func describedParse(lines []string, depth int) []api.Part {
	var parts []api.Part
	var run []string
	flush := func() {
		if run != nil {
			parts = append(parts, api.Part{Depth: depth, Lines: run})
		}
		run = nil
	}
	for i := 0; i < len(lines); i++ {
		m := openForm.FindStringSubmatch(lines[i])
		if m == nil {
			run = append(run, lines[i])
			continue
		}
		flush()
		end := matching(lines, i)
		parts = append(parts, api.Part{Depth: depth, Div: true, Label: m[1], Open: end == len(lines)})
		parts = append(parts, describedParse(lines[i+1:end], depth+1)...)
		i = end
	}
	flush()
	return parts
}

// matching is the index of the line that closes the division that line at opens; behind the last one, if there is none.
func matching(lines []string, at int) int {
	inside := 0
	for i := at; i < len(lines); i++ {
		if openForm.MatchString(lines[i]) {
			inside++
		} else if closeForm.MatchString(lines[i]) {
			inside--
		}
		if inside == 0 {
			return i
		}
	}
	return len(lines)
}

// trimmed is a line without the blanks behind the signs of a division.
func trimmed(s string) string {
	if openForm.MatchString(s) {
		return strings.TrimRight(s, " ")
	}
	return s
}

// P601, P603: Parse of every short list of awkward lines, against the same said another way, and back by Write.
func TestParseOfAll(t *testing.T) {
	pieces := []string{"a\n", "\n", ":::\n", "::: \n", ":::{x}\n", ":::{y}  \n", ":::{ }\n", " :::\n"}
	every.Text(pieces, 6, func(s string) {
		lines := strings.Split(s, "\n")
		lines = lines[:len(lines)-1]
		got := Parse(lines...)
		if want := describedParse(lines, 0); !sameParts(got, want) {
			t.Fatalf("Parse(%q): %v, not %v", lines, got, want)
		}
		back, ok := Write(got...)
		if !ok || !Right(got...) || len(back) != len(lines) {
			t.Fatalf("Write of Parse(%q): %q, %v", lines, back, ok)
		}
		for i, s := range lines {
			// Blanks behind an end stay only where it ends nothing.
			if back[i] != s && back[i] != trimmed(s) && !(closeForm.MatchString(s) && back[i] == ":::") {
				t.Fatalf("Write of Parse(%q): %q", lines, back)
			}
		}
		if !sameParts(Parse(back...), got) {
			t.Fatalf("Parse of Write of Parse(%q): %v", lines, Parse(back...))
		}
	})
}

// P603: blanks are lost behind the signs of divisions alone.
func TestBlanksThatStay(t *testing.T) {
	lines := []string{"a ", ":::  ", ":::{x}  ", "b  ", " ", ":::   ", ":::    ", ":::{ }  "}
	want := []string{"a ", ":::  ", ":::{x}", "b  ", " ", ":::", ":::    ", ":::{ }  "}
	if got, ok := Write(Parse(lines...)...); !ok || !slices.Equal(got, want) {
		t.Errorf("Write of Parse(%q): %q, %v", lines, got, ok)
	}
}

// P601: one line of every short text of awkward pieces, outside a division and within one.
func TestLinesOfAll(t *testing.T) {
	pieces := []string{":::", ":", "{", "}", "x", " ", "\t", "|", "é", "\xc3", "=", "#"}
	every.Text(pieces, 5, func(s string) {
		for _, lines := range [][]string{{s}, {":::{y}", s, "a"}, {":::{" + s}, {":::{y}", ":::" + s, ":::"}} {
			if got, want := Parse(lines...), describedParse(lines, 0); !sameParts(got, want) {
				t.Fatalf("Parse(%q): %v, not %v", lines, got, want)
			}
		}
	})
}

// describedRight says Right another way, of parts that may be by themselves: each is held against all others.
func describedRight(p []api.Part) bool {
	for i, part := range p {
		if part.Depth < 0 || i == 0 && part.Depth > 0 {
			return false
		}
		if i > 0 && p[i-1].Div && part.Depth > p[i-1].Depth+1 || i > 0 && !p[i-1].Div && part.Depth > p[i-1].Depth {
			return false
		}
		if i > 0 && !part.Div && !p[i-1].Div && part.Depth == p[i-1].Depth {
			return false
		}
		for k, other := range p {
			if part.Open && k > i && !liesIn(p, k, i) || part.Open && !other.Open && other.Div && liesIn(p, i, k) {
				return false
			}
		}
		if part.Depth > 0 && slices.Contains(part.Lines, ":::") {
			return false
		}
	}
	return true
}

// liesIn tells whether the part at lies in the part within.
func liesIn(p []api.Part, at, within int) bool {
	if at <= within {
		return false
	}
	for _, part := range p[within+1 : at+1] {
		if part.Depth <= p[within].Depth {
			return false
		}
	}
	return true
}

// P601, P603: Right and Write of every short list of parts, against the same said another way, and back by Parse.
func TestRightOfAll(t *testing.T) {
	var pool []api.Part
	for depth := -1; depth < 4; depth++ {
		pool = append(pool, run(depth, "a"), run(depth, ":::"), div(depth, "x"), open(depth, "y"))
	}
	right := 0
	checkAll(pool, nil, 4, func(p []api.Part) {
		want := describedRight(p)
		lines, ok := Write(p...)
		if Right(p...) != want || ok != want {
			t.Fatalf("Right and Write of %v: %v, %v, not %v", p, Right(p...), ok, want)
		}
		if !ok {
			if lines != nil {
				t.Fatalf("Write(%v): %q", p, lines)
			}
			return
		}
		right++
		if back := Parse(lines...); !sameParts(back, p) {
			t.Fatalf("Parse of Write(%v): %v", p, back)
		}
	})
	if right < 100 {
		t.Errorf("only %d are Right", right)
	}
}

// checkAll calls f with every list of up to most parts of the pool.
func checkAll(pool, p []api.Part, most int, f func([]api.Part)) {
	f(p)
	if most == 0 {
		return
	}
	for _, part := range pool {
		checkAll(pool, append(slices.Clip(p), part), most-1, f)
	}
}

// checkSpans holds what Spans answers of a line against pieces, and Unspan of them against it.
func checkSpans(t *testing.T, s string, want ...Piece) {
	t.Helper()
	got := Spans(s)
	if !slices.Equal(got, want) {
		t.Errorf("Spans(%q): %#v, not %#v", s, got, want)
	}
	if back := Unspan(got...); back != s {
		t.Errorf("Unspan of Spans(%q): %q", s, back)
	}
}

// P602: what stands in the chapter of Spans, by examples.
func TestSpans(t *testing.T) {
	text := func(s string) Piece { return Piece{Text: s} }
	span := func(label, s string) Piece { return Piece{Span: true, Label: label, Text: s} }
	checkSpans(t, "")
	checkSpans(t, "a", text("a"))
	checkSpans(t, "a {|x: b|} c", text("a "), span("x", " b"), text(" c"))
	checkSpans(t, "{|x:|}", span("x", ""))
	checkSpans(t, "{|x:a|}{|y:|}", span("x", "a"), span("y", ""))
	checkSpans(t, "{|x:a|}b{|y:c|}", span("x", "a"), text("b"), span("y", "c"))
	// The text goes up to the first end, whatever stands in it.
	checkSpans(t, "{|x::a:|}", span("x", ":a:"))
	checkSpans(t, "{|x:a|b}c{d|}", span("x", "a|b}c{d"))
	checkSpans(t, "{|x:||}", span("x", "|"))
	checkSpans(t, "{|x:}|}", span("x", "}"))
	checkSpans(t, "{|x:|}|}", span("x", ""), text("|}"))
	checkSpans(t, "{|x: \t\xff\n|}", span("x", " \t\xff\n"))
	// None lies in another one.
	checkSpans(t, "{|x:a{|y:b|}c|}", span("x", "a{|y:b"), text("c|}"))
	checkSpans(t, "{|x:{|y:{|z:|}{|w:|}", span("x", "{|y:{|z:"), span("w", ""))
	checkSpans(t, "{|x:a{|}|}", span("x", "a{"), text("|}"))
	// One goes on behind the first byte of what begins none.
	checkSpans(t, "{|{|x:a|}", text("{|"), span("x", "a"))
	checkSpans(t, "{|a b{|x:a|}", text("{|a b"), span("x", "a"))
	checkSpans(t, "{|{{|x:a|}", text("{|{"), span("x", "a"))
	checkSpans(t, "{{|x:a|}}", text("{"), span("x", "a"), text("}"))
	checkSpans(t, "{|"+long(41)+":a|}{|y:b|}", text("{|"+long(41)+":a|}"), span("y", "b"))
	checkSpans(t, "{|}{|x:a|}", text("{|}"), span("x", "a"))
	checkSpans(t, "{||}{|x:a|}", text("{||}"), span("x", "a"))
	checkSpans(t, "|}{|x:a|}", text("|}"), span("x", "a"))
	// What begins none, or has no end.
	for _, s := range []string{
		"{", "{|", "{|}", "{||}", "{|:|}", "{|:a|}", "{|x", "{|x:", "{|x:a", "{|x:a|", "{|x:a}", "{|x:a||", "{|x:|", "{|x|}", "{|x a:b|}", "{|x\t:b|}", "{| x:b|}", "{|a|b:c|}", "{ |x:a|}", "{x:a}", "|x:a|}", "{|x：a|}", "｛|x:a|}", "{|x:a| }", "|}", "a|}b", "|}{|x:a", "{|x:a{|y:b",
	} {
		checkSpans(t, s, text(s))
	}
}

// P602: signs and runes of more than one byte about a span.
func TestSpansOfRunes(t *testing.T) {
	for _, c := range []string{"é", "€", "😀", "\xff", "\xc3", "\xe2\x82", "\x80", "\x00", "\u017b", "\u017d"} {
		checkSpans(t, c+"{|"+c+":"+c+"|}"+c, Piece{Text: c}, Piece{Span: true, Label: c, Text: c}, Piece{Text: c})
	}
}

// P602, P603: Spans of every short line of awkward pieces, against the same said another way, and back by Unspan.
func TestSpansOfAll(t *testing.T) {
	pieces := []string{"{", "|", "}", ":", "x", " ", "é", "{|", "|}", "{|y:", ":|}"}
	every.Text(pieces, 6, func(s string) {
		var want []Piece
		begin := 0
		text := func(to int) {
			if begin < to {
				want = append(want, Piece{Text: s[begin:to]})
			}
		}
		for _, m := range spanForm.FindAllStringSubmatchIndex(s, -1) {
			text(m[0])
			want = append(want, Piece{Span: true, Label: s[m[2]:m[3]], Text: s[m[4]:m[5]]})
			begin = m[1]
		}
		text(len(s))
		got := Spans(s)
		if !slices.Equal(got, want) {
			t.Fatalf("Spans(%q): %#v, not %#v", s, got, want)
		}
		if back := Unspan(got...); back != s {
			t.Fatalf("Unspan of Spans(%q): %q", s, back)
		}
	})
}

// P602: Unspan of pieces as they are, whether a line may have them or not.
func TestUnspan(t *testing.T) {
	for _, c := range []struct {
		p    []Piece
		want string
	}{
		{nil, ""},
		{[]Piece{{}}, ""},
		{[]Piece{{}, {}, {Text: "a"}, {Text: "b"}}, "ab"},
		{[]Piece{{Label: "no", Text: "a"}}, "a"},
		{[]Piece{{Span: true}}, "{|:|}"},
		{[]Piece{{Span: true, Label: "x"}}, "{|x:|}"},
		{[]Piece{{Span: true, Label: "x", Text: "a"}, {Text: " "}, {Span: true, Label: "x", Text: "a"}}, "{|x:a|} {|x:a|}"},
		{[]Piece{{Span: true, Label: "a b|}", Text: "|}\n\xff"}, {Text: "{|"}}, "{|a b|}:|}\n\xff|}{|"},
	} {
		kept := slices.Clone(c.p)
		if got := Unspan(c.p...); got != c.want {
			t.Errorf("Unspan(%#v): %q, not %q", c.p, got, c.want)
		}
		if !slices.Equal(c.p, kept) {
			t.Errorf("Unspan wrote into %#v: %#v", kept, c.p)
		}
	}
}

// checkHeading holds what Heading answers of a line against a text and a label.
func checkHeading(t *testing.T, s, text, label string) {
	t.Helper()
	if gotText, gotLabel, ok := Heading(s); gotText != text || gotLabel != label || !ok {
		t.Errorf("Heading(%q): %q, %q, %v, not %q, %q", s, gotText, gotLabel, ok, text, label)
	}
}

// checkNoHeading holds that a line is no labelled heading.
func checkNoHeading(t *testing.T, s string) {
	t.Helper()
	if text, label, ok := Heading(s); text != "" || label != "" || ok {
		t.Errorf("Heading(%q): %q, %q, %v", s, text, label, ok)
	}
}

// P602: what stands in the chapter of Heading, by examples.
func TestHeading(t *testing.T) {
	checkHeading(t, "## A {=x}", "## A ", "x")
	checkHeading(t, "# A{=x}", "# A", "x")
	checkHeading(t, "# A {=x}    ", "# A ", "x")
	checkHeading(t, "# {=x}", "# ", "x")
	checkHeading(t, "#   {=x}", "#   ", "x")
	checkHeading(t, "# A ## {=x}", "# A ## ", "x")
	checkHeading(t, "# A\t{=x}", "# A\t", "x")
	checkHeading(t, "# \tA {=x}", "# \tA ", "x")
	checkHeading(t, "# # {=x}", "# # ", "x")
	for n := 1; n <= 6; n++ {
		for b := range 4 {
			sign := strings.Repeat(" ", b) + strings.Repeat("#", n) + " "
			checkHeading(t, sign+"A {=x}", sign+"A ", "x")
			checkHeading(t, sign+"{=x}", sign, "x")
		}
	}
	// The last sign counts.
	checkHeading(t, "# a {=x} {=y}", "# a {=x} ", "y")
	checkHeading(t, "# a {=x}{=y} ", "# a {=x}", "y")
	checkHeading(t, "# a {={=y}", "# a {=", "y")
	checkHeading(t, "# a {{=y}", "# a {", "y")
	checkHeading(t, "# a{=b}c {|x:y|} {=y-1}", "# a{=b}c {|x:y|} ", "y-1")
	checkHeading(t, "# {==}", "# ", "=")
	checkHeading(t, "# é\xff {=é\xff}", "# é\xff ", "é\xff")
}

// P602: lines that are no labelled headings.
func TestNoHeading(t *testing.T) {
	for _, s := range []string{
		"", " ", "#", "# ", "# A", "A {=x}", "{=x}", " {=x}", "   {=x}", "    # A {=x}", "     # A {=x}", "\t# A {=x}", " \t# A {=x}", "####### A {=x}", "########## {=x}", "#A {=x}", "#{=x}", "######{=x}", "####### {=x}", "#\tA {=x}", "#\t{=x}", "#\u00a0A {=x}", "\u00a0# A {=x}", "a # A {=x}", "> # A {=x}", "- # A {=x}", "＃ A {=x}",
		"# A {=}", "# A {= x}", "# A {=x }", "# A {=x} y", "# A {=x}y", "# A {=x}#", "# A {=x} #", "# A {=x}\t", "# A {=x} \t", "# A {=x}\u00a0", "# A {=x}\r", "# A {=x}\n", "# A {=x", "# A {=x ", "# A =x}", "# A {x}", "# A { =x}", "# A {=x}}", "# A {={x}", "# A {=a{b}", "# A {=x} {=}", "# A {=x} {=a b}", "# A {=x} {=y", "# A {=x} {y}", "# A {=a|b}", "# A {=a:b}", "# A {|x:a|}", "## ## {=" + long(41) + "}",
		"A {=x}\n===", "\n# A {=x}",
	} {
		checkNoHeading(t, s)
	}
}

// P602: Heading of every short line of awkward pieces, against the same said another way.
func TestHeadingOfAll(t *testing.T) {
	pieces := []string{" ", "#", "######", "{", "=", "}", "{=", "x", "é", "\t", "# ", "{=y}"}
	check := func(s string) {
		var text, label string
		m := headForm.FindStringSubmatch(s)
		if m != nil {
			text, label = m[1], m[2]
		}
		gotText, gotLabel, ok := Heading(s)
		if gotText != text || gotLabel != label || ok != (m != nil) {
			t.Fatalf("Heading(%q): %q, %q, %v, not %q, %q", s, gotText, gotLabel, ok, text, label)
		}
	}
	every.Text(pieces, 5, func(s string) {
		check(s)
		check(s + "{=z}")
		check("# a" + s)
	})
}

// P601: as many divisions in one another as the limits let by, closed and not.
func TestDeep(t *testing.T) {
	const n = 1 << 16
	lines := slices.Repeat([]string{":::{x}"}, n)
	for _, ends := range []int{0, 1, n / 2, n} {
		all := append(slices.Clone(lines), "a")
		all = append(all, slices.Repeat([]string{":::"}, ends)...)
		parts := Parse(all...)
		if len(parts) != n+1 || parts[n].Depth != n || parts[n-1].Open != (ends == 0) || parts[0].Open != (ends < n) {
			t.Fatalf("%d divisions, %d ends: %d parts", n, ends, len(parts))
		}
		if back, ok := Write(parts...); !ok || !slices.Equal(back, all) {
			t.Errorf("Write of %d divisions, %d ends: %v", n, ends, ok)
		}
	}
}

// P601, P602: long lines and lists take no longer than their length asks: each would take minutes, if one looked at all of what is behind from each place.
func TestLong(t *testing.T) {
	const n = 1 << 20
	for _, piece := range []string{"{|", "{|x", "{|x:", "{|x:|", "{", "{|é:{", "|}", ":", "{="} {
		for _, end := range []string{"", "|}", ":|}", "|}{|y:"} {
			s := strings.Repeat(piece, n) + end
			if back := Unspan(Spans(s)...); back != s {
				t.Errorf("Unspan of Spans of many %q and %q is another line", piece, end)
			}
		}
	}
	if got := Spans(strings.Repeat("{|x:a|}b", n)); len(got) != 2*n {
		t.Errorf("%d pieces of many spans", len(got))
	}
	checkNoHeading(t, strings.Repeat("# {=x} ", n)+"a")
	checkParse(t, slices.Repeat([]string{":::{" + strings.Repeat(" ", n) + "}"}, 8), run(0, slices.Repeat([]string{":::{" + strings.Repeat(" ", n) + "}"}, 8)...))
	many := slices.Repeat([]string{":::{x}", "a", ":::"}, n/4)
	if back, ok := Write(Parse(many...)...); !ok || !slices.Equal(back, many) {
		t.Errorf("Write of Parse of many lines: %v", ok)
	}
}
