package target

import (
	"fmt"
	"regexp"
	"strings"
	"testing"

	"bowdler/entity"
	"bowdler/every"
	"bowdler/repair"
)

// piece is what Dest and Title answer, link what Inside answers.
type piece struct {
	text string
	size int
	ok   bool
}

type link struct {
	url, title string
	size       int
	ok         bool
}

func destOf(s string) (p piece) {
	p.text, p.size, p.ok = Dest(s)
	return p
}

func titleOf(s string) (p piece) {
	p.text, p.size, p.ok = Title(s)
	return p
}

func insideOf(s string) (l link) {
	l.url, l.title, l.size, l.ok = Inside(s)
	return l
}

// check holds an answer against what is wanted.
func check[T comparable](t *testing.T, call, s string, got, want T) {
	t.Helper()
	if got != want {
		t.Errorf("%s(%.200q): %.200q, not %.200q", call, s, fmt.Sprintf("%+v", got), fmt.Sprintf("%+v", want))
	}
}

// P1001: what stands in the chapter of Unescape, by examples.
func TestUnescape(t *testing.T) {
	for s, want := range map[string]string{
		"":        "",
		"a b":     "a b",
		"é\xff\n": "é\xff\n",
		// A backslash ahead of a sign, and of what is none.
		"\\*":         "*",
		"a\\*b":       "a*b",
		"\\a":         "\\a",
		"\\0":         "\\0",
		"\\ ":         "\\ ",
		"\\\n":        "\\\n",
		"\\\x00":      "\\\x00",
		"\\\x7f":      "\\\x7f",
		"\\é":         "\\é",
		"\\\xff":      "\\\xff",
		"\\¡":         "\\¡",
		"\\€":         "\\€",
		"é\\*é\xff\\": "é*é\xff\\",
		// The last one, and rows of them.
		"\\":         "\\",
		"a\\":        "a\\",
		"\\\\":       "\\",
		"\\\\\\":     "\\\\",
		"\\\\\\\\":   "\\\\",
		"\\\\*":      "\\*",
		"\\\\\\*":    "\\*",
		"\\\\a":      "\\a",
		"\\a\\*\\b*": "\\a*\\b*",
		// An entity, and what is none.
		"&amp;":       "&",
		"a&lt;b&gt;c": "a<b>c",
		"&auml;&nbsp": "ä&nbsp",
		"&#42;&#x2a;": "**",
		"&#0;":        "\ufffd",
		"&x;&;&#;&":   "&x;&;&#;&",
		"&AMP; &amp":  "&AMP; &amp",
		"&&amp;amp;":  "&&amp;",
		// What is told is not asked again.
		"&amp;amp;":    "&amp;",
		"&#38;#42;":    "&#42;",
		"&#92;*":       "\\*",
		"&#92;&#42;":   "\\*",
		"&#92;\\":      "\\\\",
		"\\&amp;":      "&amp;",
		"\\\\&amp;":    "\\&",
		"\\&\\#42;":    "&#42;",
		"&\\#42;":      "&#42;",
		"&amp\\;":      "&amp;",
		"&#42\\;":      "&#42;",
		"&am\\p;":      "&am\\p;",
		"&lt;\\&gt;\\": "<&gt;\\",
	} {
		check(t, "Unescape", s, Unescape(s), want)
	}
}

// P1001: of all bytes, those that are signs alone are told without the backslash ahead.
func TestUnescapeOfEachByte(t *testing.T) {
	for b := range 256 {
		sign := string([]byte{byte(b)})
		s, want := "\\"+sign+"x", "\\"+sign+"x"
		if repair.Ascii(byte(b)) {
			want = sign + "x"
		}
		check(t, "Unescape", s, Unescape(s), want)
		check(t, "Unescape", sign, Unescape(sign), sign)
	}
}

// P1001: each entity that has a name.
func TestUnescapeOfEachName(t *testing.T) {
	for _, name := range entity.Names() {
		text, _ := entity.Named(name)
		check(t, "Unescape", name, Unescape("a&"+name+";b"), "a"+text+"b")
		check(t, "Unescape", name, Unescape("a\\&"+name+";b"), "a&"+name+";b")
	}
}

// P1001: destinations between < and >.
func TestDestBetween(t *testing.T) {
	for s, want := range map[string]piece{
		"<>":         {"", 2, true},
		"<a>":        {"a", 3, true},
		"<a>b>":      {"a", 3, true},
		"<>>":        {"", 2, true},
		"<a b\t>c":   {"a b\t", 6, true},
		"< >":        {" ", 3, true},
		"<(>":        {"(", 3, true},
		"<a)b>":      {"a)b", 5, true},
		"<é\xff>":    {"é\xff", 5, true},
		"<\x01\x7f>": {"\x01\x7f", 4, true},
		"<\r>":       {"\r", 3, true},
		"<\"a\">":    {"\"a\"", 5, true},
		"<a>\x00\n":  {"a", 3, true},
		// Backslashes and entities.
		"<\\>>":        {">", 4, true},
		"<\\<>":        {"<", 4, true},
		"<a\\>b>":      {"a>b", 6, true},
		"<\\\\>>":      {"\\", 4, true},
		"<\\\\\\>>":    {"\\>", 6, true},
		"<\\a>":        {"\\a", 4, true},
		"<\\\n>":       {"\\\n", 4, true},
		"<\\é>":        {"\\é", 5, true},
		"<\\\xff>":     {"\\\xff", 4, true},
		"<&lt;&gt;>":   {"<>", 10, true},
		"<&#10;>":      {"\n", 7, true},
		"<&#62;a>":     {">a", 8, true},
		"<a&amp;b\\*>": {"a&b*", 11, true},
		// Wrong ones.
		"<":          {},
		"<a":         {},
		"<<":         {},
		"<<>":        {},
		"<<a>>":      {},
		"<a<b>":      {},
		"<a\nb>":     {},
		"<\n>":       {},
		"<\x00>":     {},
		"<a\x00b>":   {},
		"<\\\x00>":   {},
		"<\\\\\x00>": {},
		"<\\<\x00>":  {},
		"<\\>":       {},
		"<\\":        {},
		"<a\\\\\\>":  {},
		"<\\\\<>":    {},
		"<\\\\\n>":   {},
		"<\\é\n>":    {},
		"<a&gt;":     {},
		"\\<a b>":    {"<a", 3, true},
		" <a>":       {},
		"＜a＞":        {"＜a＞", 7, true},
	} {
		check(t, "Dest", s, destOf(s), want)
	}
}

// P1001: destinations with no sign around them.
func TestDestBare(t *testing.T) {
	for s, want := range map[string]piece{
		"a":            {"a", 1, true},
		"/a b":         {"/a", 2, true},
		"a\tb":         {"a", 1, true},
		"a\nb":         {"a", 1, true},
		"a\x00":        {"a", 1, true},
		"a\x7fb":       {"a", 1, true},
		"é":            {"é", 2, true},
		"aé b":         {"aé", 3, true},
		"a\xff":        {"a\xff", 2, true},
		"\xc3 a":       {"\xc3", 1, true},
		"\u00a0\u0085": {"\u00a0\u0085", 4, true},
		"a<b>":         {"a<b>", 4, true},
		">":            {">", 1, true},
		"\"a\"b":       {"\"a\"b", 4, true},
		"'a b'":        {"'a", 2, true},
		"a[b]*":        {"a[b]*", 5, true},
		// Brackets.
		"a)":        {"a", 1, true},
		"a)(":       {"a", 1, true},
		"a))":       {"a", 1, true},
		"()":        {"()", 2, true},
		"(a)":       {"(a)", 3, true},
		"())":       {"()", 2, true},
		"()()":      {"()()", 4, true},
		"()(":       {},
		"a(b)c)d":   {"a(b)c", 5, true},
		"((a))":     {"((a))", 5, true},
		"(a(b)c) d": {"(a(b)c)", 7, true},
		"(()())) ":  {"(()())", 6, true},
		"(é)\xff":   {"(é)\xff", 5, true},
		// Backslashes.
		"\\":        {"\\", 1, true},
		"a\\ b":     {"a\\", 2, true},
		"a\\\x00":   {"a\\", 2, true},
		"a\\\x7f":   {"a\\", 2, true},
		"a\\\nb":    {"a\\", 2, true},
		"\\)":       {")", 2, true},
		"\\(":       {"(", 2, true},
		"a\\)b":     {"a)b", 4, true},
		"a\\)b)":    {"a)b", 4, true},
		"(\\))":     {"())", 4, true},
		"(\\()":     {"(()", 4, true},
		"\\\\)":     {"\\", 2, true},
		"\\\\(a)":   {"\\(a)", 5, true},
		"\\\\\\)":   {"\\)", 4, true},
		"\\\\\\\\)": {"\\\\", 4, true},
		"\\é)":      {"\\é", 3, true},
		"\\\xff)":   {"\\\xff", 2, true},
		"\\<a>":     {"<a>", 4, true},
		"a\\b":      {"a\\b", 3, true},
		"\\\\ (":    {"\\", 2, true},
		"(\\) a":    {},
		"(\\)":      {},
		"(\\\\)":    {"(\\)", 4, true},
		"(\\\\\\)":  {},
		"\\((":      {},
		// Entities are of bytes like others.
		"a&amp;b":      {"a&b", 7, true},
		"&#32;":        {" ", 5, true},
		"&#41;)":       {")", 5, true},
		"&#40;":        {"(", 5, true},
		"&lt;a&gt;":    {"<a>", 9, true},
		"&nbsp;\u00a0": {"\u00a0\u00a0", 8, true},
		"&amp":         {"&amp", 4, true},
		"\\&amp;":      {"&amp;", 6, true},
		// Wrong ones.
		"":       {},
		" ":      {},
		" a":     {},
		"\ta":    {},
		"\na":    {},
		"\x00":   {},
		"\x1fa":  {},
		"\x7fa":  {},
		")":      {},
		")a":     {},
		")(":     {},
		"(":      {},
		"((":     {},
		"(()":    {},
		"a(b":    {},
		"(a b)":  {},
		"a( )":   {},
		"(\x00)": {},
		"(\x7f)": {},
		"a(b)(":  {},
		"<a b":   {},
		"<":      {},
	} {
		check(t, "Dest", s, destOf(s), want)
	}
}

// P1001: of all bytes, those that may be in a destination, in each of its two forms.
func TestDestOfEachByte(t *testing.T) {
	for b := range 256 {
		sign := string([]byte{byte(b)})
		want := piece{"x" + sign + "y", 3, true}
		switch {
		case b <= 32, b == 127, b == ')':
			want = piece{"x", 1, true}
		case b == '(':
			want = piece{}
		}
		check(t, "Dest", "x"+sign+"y", destOf("x"+sign+"y"), want)
		want = piece{"x" + sign + "y", 5, true}
		switch b {
		case 0, '\n', '<':
			want = piece{}
		case '>':
			want = piece{"x", 3, true}
		}
		check(t, "Dest", "<x"+sign+"y>", destOf("<x"+sign+"y>"), want)
		want = piece{"\\" + sign + "y", 5, true}
		switch {
		case b == 0:
			want = piece{}
		case repair.Ascii(byte(b)):
			want.text = sign + "y"
		}
		check(t, "Dest", "<\\"+sign+"y>", destOf("<\\"+sign+"y>"), want)
	}
}

// P1001: what stands in the chapter of Title, by examples.
func TestTitle(t *testing.T) {
	for s, want := range map[string]piece{
		"\"\"":      {"", 2, true},
		"''":        {"", 2, true},
		"()":        {"", 2, true},
		"\"a b\"c":  {"a b", 5, true},
		"'a b'c":    {"a b", 5, true},
		"(a b)c":    {"a b", 5, true},
		"\"a\"b\"":  {"a", 3, true},
		"'a'b'":     {"a", 3, true},
		"(a)b)":     {"a", 3, true},
		"\"a\"\x00": {"a", 3, true},
		"\"é\xff\"": {"é\xff", 5, true},
		// The signs of the others, and ends of lines.
		"\"'()'\"":     {"'()'", 6, true},
		"'\"()\"'":     {"\"()\"", 6, true},
		"(\"a')":       {"\"a'", 5, true},
		"\"a\n\nb\t\"": {"a\n\nb\t", 7, true},
		"(\n)":         {"\n", 3, true},
		"'<a>[b]\x01'": {"<a>[b]\x01", 9, true},
		// Backslashes and entities.
		"\"\\\"\"":          {"\"", 4, true},
		"'\\''":             {"'", 4, true},
		"(\\))":             {")", 4, true},
		"(\\()":             {"(", 4, true},
		"(\\(\\))":          {"()", 6, true},
		"\"\\\\\"\"":        {"\\", 4, true},
		"'\\\\\\''":         {"\\'", 6, true},
		"(\\\\)":            {"\\", 4, true},
		"\"\\a\\\n\\é\"":    {"\\a\\\n\\é", 9, true},
		"'\\\"'":            {"\"", 4, true},
		"'\\\xff'":          {"\\\xff", 4, true},
		"\"&quot;&#34;\"":   {"\"\"", 13, true},
		"(&#40;&#41;)":      {"()", 12, true},
		"'&amp;amp;\\&lt;'": {"&amp;&lt;", 16, true},
		// Wrong ones.
		"":           {},
		"a":          {},
		" \"a\"":     {},
		"\\\"a\"":    {},
		"\"":         {},
		"'":          {},
		"(":          {},
		")":          {},
		")a)":        {},
		"\"a":        {},
		"\"a'":       {},
		"'a\"":       {},
		"(a":         {},
		"(a(":        {},
		"((a)":       {},
		"((a))":      {},
		"(a(b)c)":    {},
		"(a(b":       {},
		"\"\\\"":     {},
		"'\\'":       {},
		"(\\)":       {},
		"\"\\":       {},
		"\"\\\\\\\"": {},
		"(\\\\()":    {},
		"\"\x00\"":   {},
		"'a\x00'":    {},
		"(\x00)":     {},
		"\"\\\x00\"": {},
		"'\\\x00'":   {},
		"(\\\x00)":   {},
		"'\\\\\x00'": {},
		"\"a&quot;":  {},
		"“a”":        {},
		"´a´":        {},
		"`a`":        {},
		"<a>":        {},
		"[a]":        {},
		"（a）":        {},
	} {
		check(t, "Title", s, titleOf(s), want)
	}
}

// P1001: of all bytes, those that may be in a title, in each of its three forms.
func TestTitleOfEachByte(t *testing.T) {
	for _, signs := range []string{"\"\"", "''", "()"} {
		begin, end := signs[:1], signs[1:]
		for b := range 256 {
			sign := string([]byte{byte(b)})
			s, want := begin+"x"+sign+"y"+end, piece{"x" + sign + "y", 5, true}
			switch {
			case sign == end:
				want = piece{"x", 3, true}
			case sign == begin || b == 0:
				want = piece{}
			}
			check(t, "Title", s, titleOf(s), want)
			s, want = begin+"\\"+sign+"y"+end, piece{"\\" + sign + "y", 5, true}
			switch {
			case b == 0:
				want = piece{}
			case repair.Ascii(byte(b)):
				want.text = sign + "y"
			}
			check(t, "Title", s, titleOf(s), want)
			if strings.Contains("\"'(", sign) {
				continue
			}
			s = sign + "x" + end
			check(t, "Title", s, titleOf(s), piece{})
		}
	}
}

// P1002: what stands in the chapter of Inside, by examples.
func TestInside(t *testing.T) {
	for s, want := range map[string]link{
		"(/a \"t\")x": {"/a", "t", 8, true},
		// Neither, one of them, both.
		"()":          {"", "", 2, true},
		"()x)":        {"", "", 2, true},
		"(/a)":        {"/a", "", 4, true},
		"(/a)b)":      {"/a", "", 4, true},
		"(<>)":        {"", "", 4, true},
		"(<a b>)":     {"a b", "", 7, true},
		"(/a 't')":    {"/a", "t", 8, true},
		"(/a (t))":    {"/a", "t", 8, true},
		"(<a b> (t))": {"a b", "t", 11, true},
		"(<> '')":     {"", "", 7, true},
		"(a \"\")":    {"a", "", 6, true},
		"(a(b))":      {"a(b)", "", 6, true},
		"(())":        {"()", "", 4, true},
		"(() ())":     {"()", "", 7, true},
		"(a (b) )":    {"a", "b", 8, true},
		// Blanks, at each of the places.
		"( )":                     {"", "", 3, true},
		"( \t\n)":                 {"", "", 5, true},
		"(\n\n)":                  {"", "", 4, true},
		"( a)":                    {"a", "", 4, true},
		"(a )":                    {"a", "", 4, true},
		"(\t\n a\n \t)":           {"a", "", 9, true},
		"(\n/a\n't'\n)":           {"/a", "t", 10, true},
		"( \t\n<a> \t\n't' \t\n)": {"a", "t", 17, true},
		"(a\t\"t\")":              {"a", "t", 7, true},
		"(a\n\n\"t\n\nu\"\n\n)":   {"a", "t\n\nu", 13, true},
		// Where no Dest is, there may be a title behind blanks.
		"( (a b))":     {"", "a b", 8, true},
		"(\n(a b)\t)":  {"", "a b", 9, true},
		"( (a\\)))":    {"(a))", "", 8, true},
		"( (a\\) b))":  {"", "a) b", 10, true},
		"( (\tb))":     {"", "\tb", 7, true},
		"( (a))":       {"(a)", "", 6, true},
		"( ())":        {"()", "", 5, true},
		"((a b))":      {},
		"((a b) )":     {},
		"( (a b) c)":   {},
		"( (a b) 't')": {},
		"( (a b)":      {},
		"( (a (b c)))": {},
		// A Dest is none by a bracket left open also where that stands behind all.
		"( '(')":   {},
		"( '(')(":  {"", "(", 6, true},
		"( '(') (": {},
		// A Dest that there is counts, though it looks like a title.
		"(\"t\")":     {"\"t\"", "", 5, true},
		"( 't')":      {"'t'", "", 6, true},
		"( \"\" 't')": {"\"\"", "t", 9, true},
		"( \"a b\")":  {},
		"( 'a 'b')":   {"'a", "b", 9, true},
		"(a\"t\")":    {"a\"t\"", "", 6, true},
		"(a't)":       {"a't", "", 5, true},
		"('(t)')":     {"'(t)'", "", 7, true},
		// No blank ahead of a title.
		"(<a>\"t\")": {},
		"(<>'t')":    {},
		"(<a>(t))":   {},
		"(<a>)":      {"a", "", 5, true},
		"(a(t))":     {"a(t)", "", 6, true},
		// Backslashes and entities.
		"(\\))":            {")", "", 4, true},
		"(a\\) 't\\'')":    {"a)", "t'", 11, true},
		"(&#41; '&quot;')": {")", "\"", 16, true},
		"(\\\\)":           {"\\", "", 4, true},
		"(a\\ 't')":        {"a\\", "t", 8, true},
		"(\\<a b>)":        {},
		"(<\\>> (\\(\\)))": {">", "()", 13, true},
		"(\\)":             {},
		"(a 't\\')":        {},
		"(a 't'\\)":        {},
		"(a 't' \\)":       {},
		// Other runes.
		"(é 'ü')é":      {"é", "ü", 9, true},
		"(\xff '\xff')": {"\xff", "\xff", 7, true},
		"(\u00a0)":      {"\u00a0", "", 4, true},
		"(a\u00a0't')":  {"a\u00a0't'", "", 8, true},
		// Wrong ones.
		"":                 {},
		"(":                {},
		"( ":               {},
		"a":                {},
		"/a)":              {},
		" (a)":             {},
		"\\(a)":            {},
		"[a]":              {},
		"(a":               {},
		"(a ":              {},
		"(/a 't'":          {},
		"(/a 't' ":         {},
		"(/a b)":           {},
		"(/a \"t)":         {},
		"(/a \"t\" x)":     {},
		"(/a \"t\"x)":      {},
		"(/a \"t\" \"u\")": {},
		"(/a \"t\"\"u\")":  {},
		"(a (b(c)))":       {},
		"(a(b)":            {},
		"(a b(c))":         {},
		"(<a)":             {},
		"(<a b)":           {},
		"(<a<b>)":          {},
		"(<a\n>)":          {},
		"( <a 't')":        {},
		"( < 't')":         {},
		"(<a>b)":           {},
		"(<a> b)":          {},
		"(a\x00)":          {},
		"(\x00)":           {},
		"(\x00a)":          {},
		"(a \x00)":         {},
		"(a '\x00')":       {},
		"(a\x7f)":          {},
		"(\r)":             {},
		"(a\r't')":         {},
		"(a\v't')":         {},
		"(a \f't')":        {},
		"(a 't'\r)":        {},
		"（a）":              {},
	} {
		check(t, "Inside", s, insideOf(s), want)
	}
}

// P1002: of all bytes, three are the blanks of Inside, at each of the places.
func TestInsideBlanks(t *testing.T) {
	for b := range 256 {
		sign := string([]byte{byte(b)})
		for _, c := range []struct{ head, tail, title string }{
			{"(<a>", ")", ""}, {"(<a>", "'t')", "t"}, {"(<a> 't'", ")", "t"}, {"(", "<a>)", ""},
		} {
			s, want := c.head+sign+c.tail, link{}
			switch {
			case b == ' ' || b == '\t' || b == '\n':
				want = link{"a", c.title, len(s), true}
			case b > ' ' && b != 127 && c.head == "(":
				// It is the first byte of a destination, such as it is.
				want = wantInside(s)
			case b == ')':
				want = wantInside(c.head + ")")
			}
			check(t, "Inside", s, insideOf(s), want)
		}
	}
}

// P1002: what stands in the chapter of Safe, by examples.
func TestSafe(t *testing.T) {
	for _, s := range []string{
		"javascript:", "vbscript:", "file:", "data:", "javascript:x", "vbscript:x", "file:///x", "data:text/html,x",
		"JAVASCRIPT:", "VBScript:", "File:", "dAtA:", "javascripT:x", "JavaScript:javascript:",
		" javascript:", "\tdata:", "\n\r\x00\x1f\x7f file:", "java\nscript:", "java script:", "d a t a :", "data\t:", "dat\x7fa:", "\x01v\x02b\x03script\x04:\x05",
		strings.Repeat(" ", 1<<16) + "file" + strings.Repeat("\x7f", 1<<16) + ":",
	} {
		check(t, "Safe", s, Safe(s), false)
	}
	for _, s := range []string{
		"", " ", ":", "a", "/a", "#a", "a:", "http:", "https://a/b", "mailto:a@b", "ftp:x", "about:blank",
		"javascript", "vbscript", "file", "data", "javascript;", "data;:", "javascrip:", "javascripts:", "datax:", "dat:", "ile:", "file//x:",
		"xjavascript:", "xfile:", "/data:", "#data:", "?data:", "./file:", ":data:", "mailto:file:", "https://data:", "-data:", "\"data:\"", "<data:>",
		"java-script:", "java/script:", "java\u00a0script:", "\u00a0data:", "\u2003data:", "\ufeffdata:", "\u0085data:", "\xffdata:", "da\xffta:", "data\xff:", "\xa0data:",
		"java%0ascript:", "%64ata:", "data%3a", "data&colon;", "&#100;ata:", "d\\ata:", "\\data:",
		"daťa:", "ｄata:", "data：", "vbſcript:", "javaſcript:", "ﬁle:", "fıle:", "FİLE:", "ğata:", "ġata:", "dataĺ", "Ťata:",
		"\x24\x41\x54\x41:", "d!ta:", "[ata:", "DATA\x1a\x5a", "data\x1a",
	} {
		check(t, "Safe", s, Safe(s), true)
	}
}

// P1002: of all bytes, those that are not shown go wherever they stand; no other may stand in one's place.
func TestSafeOfEachByte(t *testing.T) {
	for _, scheme := range []string{"javascript:", "vbscript:", "file:", "data:"} {
		for b := range 256 {
			sign := string([]byte{byte(b)})
			for i := range scheme {
				s := scheme[:i] + sign + scheme[i:]
				doubled := strings.HasPrefix(strings.ToLower(s), scheme)
				check(t, "Safe", s, Safe(s), b > 32 && b != 127 && !doubled)
				s = scheme[:i] + sign + scheme[i+1:]
				check(t, "Safe", s, Safe(s), strings.ToLower(sign) != scheme[i:i+1])
			}
			check(t, "Safe", scheme+sign, Safe(scheme+sign), false)
			check(t, "Safe", sign, Safe(sign), true)
		}
		for i := range scheme {
			check(t, "Safe", scheme[:i], Safe(scheme[:i]), true)
		}
	}
}

// P1002: of all bytes, those that stay, and what the others become.
func TestEncode(t *testing.T) {
	const stay = "abcdefghijklmnopqrstuvwxyzABCDEFGHIJKLMNOPQRSTUVWXYZ0123456789-._~:/?#@!$&'()*+,;=%"
	for b := range 256 {
		sign := string([]byte{byte(b)})
		want := fmt.Sprintf("%%%02X", b)
		if strings.IndexByte(stay, byte(b)) >= 0 {
			want = sign
		}
		for _, c := range []struct{ s, want string }{
			{sign, want}, {sign + sign, want + want}, {"a" + sign, "a" + want}, {sign + "/", want + "/"}, {"x" + sign + "y", "x" + want + "y"},
		} {
			check(t, "Encode", c.s, Encode(c.s), c.want)
		}
	}
	for s, want := range map[string]string{
		"":                             "",
		stay:                           stay,
		"/a b":                         "/a%20b",
		"é":                            "%C3%A9",
		"é/€":                          "%C3%A9/%E2%82%AC",
		"😀":                            "%F0%9F%98%80",
		"\ufffd":                       "%EF%BF%BD",
		"\xff":                         "%FF",
		"a\xe2\x82b":                   "a%E2%82b",
		"\xed\xa0\x80":                 "%ED%A0%80",
		"%":                            "%",
		"%20%zz":                       "%20%zz",
		"\x00\n\x7f":                   "%00%0A%7F",
		"\"<>[]\\^`{|}":                "%22%3C%3E%5B%5D%5C%5E%60%7B%7C%7D",
		"ａ１":                           "%EF%BD%81%EF%BC%91",
		"https://a.b/c?d=e&f#g é":      "https://a.b/c?d=e&f#g%20%C3%A9",
		"javascript:alert('x', \"y\")": "javascript:alert('x',%20%22y%22)",
	} {
		check(t, "Encode", s, Encode(s), want)
		check(t, "Encode", want, Encode(want), want)
	}
}

// The calls said another way: what may be in each form is asked for by expressions.
var (
	escapes    = regexp.MustCompile("(?s)\\\\[!-/:-@\\[-`{-~]|&[#0-9A-Za-z]*;")
	pointDest  = regexp.MustCompile(`^<((?:[^<>\n\x00\\]|\\[^\x00])*)>`)
	shownRun   = regexp.MustCompile(`^[^\x00- \x7f]+`)
	pairs      = regexp.MustCompile(`(?s)\\.`)
	innermost  = regexp.MustCompile(`\(([^()]*)\)`)
	quoteTitle = regexp.MustCompile(`^"((?:[^"\x00\\]|\\[^\x00])*)"`)
	pointTitle = regexp.MustCompile(`^'((?:[^'\x00\\]|\\[^\x00])*)'`)
	roundTitle = regexp.MustCompile(`^\(((?:[^()\x00\\]|\\[^\x00])*)\)`)
	gaps       = regexp.MustCompile(`^[ \t\n]*`)
)

func wantUnescape(s string) string {
	return escapes.ReplaceAllStringFunc(s, func(e string) string {
		if e[0] == '\\' {
			return e[1:]
		}
		if text, size := entity.At(e); size == len(e) {
			return text
		}
		return e
	})
}

func matched(e *regexp.Regexp, s string) piece {
	m := e.FindStringSubmatch(s)
	if m == nil {
		return piece{}
	}
	return piece{wantUnescape(m[1]), len(m[0]), true}
}

func wantDest(s string) piece {
	if strings.HasPrefix(s, "<") {
		return matched(pointDest, s)
	}
	run := shownRun.FindString(s)
	// Pairs go, and then brackets that have nothing but pairs between; those that are left say how far it reaches.
	left := pairs.ReplaceAllStringFunc(run, func(p string) string { return strings.Repeat("_", len(p)) })
	for innermost.MatchString(left) {
		left = innermost.ReplaceAllString(left, "_${1}_")
	}
	if end := strings.IndexByte(left, ')'); end >= 0 {
		run, left = run[:end], left[:end]
	}
	if run == "" || strings.Contains(left, "(") {
		return piece{}
	}
	return piece{wantUnescape(run), len(run), true}
}

func wantTitle(s string) piece {
	for _, e := range []*regexp.Regexp{quoteTitle, pointTitle, roundTitle} {
		if p := matched(e, s); p.ok {
			return p
		}
	}
	return piece{}
}

func wantInside(s string) link {
	rest, ok := strings.CutPrefix(s, "(")
	if !ok {
		return link{}
	}
	gap := gaps.FindString(rest)
	rest = rest[len(gap):]
	dest := wantDest(rest)
	if dest.ok {
		rest = rest[dest.size:]
		gap = gaps.FindString(rest)
		rest = rest[len(gap):]
	}
	title := piece{}
	if gap != "" {
		title = wantTitle(rest)
		rest = rest[title.size:]
	}
	rest, ok = strings.CutPrefix(strings.TrimLeft(rest, " \t\n"), ")")
	if !ok {
		return link{}
	}
	return link{dest.text, title.text, len(s) - len(rest), true}
}

func wantSafe(url string) bool {
	shown := strings.Map(func(r rune) rune {
		switch {
		case r <= 32 || r == 127:
			return -1
		case 'A' <= r && r <= 'Z':
			return r + 32
		}
		return r
	}, url)
	for _, scheme := range []string{"javascript:", "vbscript:", "file:", "data:"} {
		if strings.HasPrefix(shown, scheme) {
			return false
		}
	}
	return true
}

// checkAll holds every call of a text against the same said another way, and what is read against it alone.
func checkAll(t *testing.T, s string) {
	t.Helper()
	dest, title, inside := destOf(s), titleOf(s), insideOf(s)
	check(t, "Unescape", s, Unescape(s), wantUnescape(s))
	check(t, "Dest", s, dest, wantDest(s))
	check(t, "Title", s, title, wantTitle(s))
	check(t, "Inside", s, inside, wantInside(s))
	check(t, "Dest", s, destOf(s[:dest.size]), dest)
	check(t, "Title", s, titleOf(s[:title.size]), title)
	check(t, "Title", s, titleOf(s[:title.size]+"\x00\\"), title)
	if inside.url != "" {
		check(t, "Inside", s, insideOf(s[:inside.size]), inside)
		check(t, "Inside", s, insideOf(s[:inside.size]+"\x00\\"), inside)
	}
}

// checkEvery holds every text of up to most of the pieces, behind the head.
func checkEvery(t *testing.T, most int, head string, pieces ...string) {
	t.Helper()
	every.Text(pieces, most, func(s string) {
		if !t.Failed() {
			checkAll(t, head+s)
		}
	})
}

// P1001, P1002: every short text of awkward pieces.
func TestAll(t *testing.T) {
	checkEvery(t, 4, "", "(", ")", "<", ">", "\"", "'", "\\", " ", "\t", "\n", "a", "é", "\x00", "\x7f", "\xff", "&amp;", "&", ";")
	checkEvery(t, 7, "", "(", ")", "\\", " ", "a")
	checkEvery(t, 6, "<", "<", ">", "\\", "\n", "\x00", "a")
	checkEvery(t, 6, "\"", "\"", "\\", "\n", "\x00", "&#34;", "é")
	checkEvery(t, 6, "'", "'", "\\", "(", "\x00", "&#39;", "\xff")
	checkEvery(t, 7, "(", "(", ")", "\\", " ", "'")
	checkEvery(t, 5, "(", "(", ")", "\\", " ", "\n", "a", "\"", "<", ">")
	checkEvery(t, 5, "(a ", "(", ")", "\\", "\t", "'", "'b'", "c", "\x00")
	checkEvery(t, 5, "( <a>", "(", ")", "\"", "\n", "\"b\"", "(c d)", "\x01")
	checkEvery(t, 6, "", "\\", "&", "#", "42", ";", "lt", "a")
}

// P1002: Safe of every short text of awkward pieces, and Encode of it: of bytes that may stay alone, and found in what Encode told before.
func TestUrls(t *testing.T) {
	pieces := []string{"javascript", "DATA", "fi", "le", ":", " ", "\x7f", "\x00", "x", "é", "\xff", "%", "ſ", "vbScript:"}
	every.Text(pieces, 4, func(s string) {
		check(t, "Safe", s, Safe(s), wantSafe(s))
		want := ""
		for _, b := range []byte(s) {
			want += Encode(string([]byte{b}))
		}
		check(t, "Encode", s, Encode(s), want)
		check(t, "Encode", want, Encode(want), want)
	})
}

// P1001, P1002: of long texts, too, each byte is asked a few times.
func TestLong(t *testing.T) {
	const n = 1 << 20
	long := func(s string) string { return strings.Repeat(s, n) }
	check(t, "Unescape", "long", Unescape(long("\\*&amp;&\\")), long("*&&\\"))
	check(t, "Unescape", "long", Unescape(long("&a")), long("&a"))
	check(t, "Dest", "long", destOf(long("(")+long(")")+")"), piece{long("(") + long(")"), 2 * n, true})
	check(t, "Dest", "long", destOf(long("(")), piece{})
	check(t, "Dest", "long", destOf("<"+long("(\\>")+">"), piece{long("(>"), 3*n + 2, true})
	check(t, "Dest", "long", destOf("<"+long("a")), piece{})
	check(t, "Title", "long", titleOf("\""+long("\\\"\n")+"\""), piece{long("\"\n"), 3*n + 2, true})
	check(t, "Title", "long", titleOf("("+long("\\)")), piece{})
	check(t, "Inside", "long", insideOf("("+long(" ")+long("a")+long("\n")+"'"+long("t")+"'"+long("\t")+")"), link{long("a"), long("t"), 5*n + 4, true})
	check(t, "Inside", "long", insideOf("("+long(" ")), link{})
	check(t, "Safe", "long", Safe(long("a")), true)
	check(t, "Safe", "long", Safe(long("\n")+"data:"), false)
	check(t, "Encode", "long", Encode(long("é/")), long("%C3%A9/"))
}
