package mark

import (
	"math"
	"regexp"
	"slices"
	"strconv"
	"strings"
	"testing"

	"bowdler/every"
	"bowdler/line"
)

// heading, fence, quote and item are what the calls of these names answer.
type heading struct {
	level int
	text  string
	ok    bool
}

type fence struct {
	sign byte
	size int
	info string
	ok   bool
}

type quote struct {
	text string
	ok   bool
}

type item struct {
	sign            byte
	number, columns int
	text            string
	ok              bool
}

func headingOf(s string) (h heading) {
	h.level, h.text, h.ok = Heading(s)
	return h
}

func fenceOf(s string) (f fence) {
	f.sign, f.size, f.info, f.ok = Fence(s)
	return f
}

func quoteOf(s string) (q quote) {
	q.text, q.ok = Quote(s)
	return q
}

func itemOf(s string) (i item) {
	i.sign, i.number, i.columns, i.text, i.ok = Item(s)
	return i
}

// check holds an answer against what is wanted.
func check[T comparable](t *testing.T, call, s string, got, want T) {
	t.Helper()
	if got != want {
		t.Errorf("%s(%q): %#v, not %#v", call, s, got, want)
	}
}

// others are lines that begin nothing: no marks, marks behind something else, and runes whose low byte is a mark's.
func others() []string {
	return []string{
		"", " ", "   ", "    ", "\t", " \t", "a", "   a", "é", "\xff", "\xc3", "\x00", "\r", "\n", "\u00a0", "0", "12", "$", "@", "[", "(", "\\",
		"a# b", "a ---", "a```", "a> b", "a- b", "a1. b", "a===", "a<b", "\\# a", "\\---", "\\```", "\\> a", "\\- a", "1\\. a", "\\<a",
		"\u00a0# a", "\u00a0---", "\v~~~", "\f> a", "\r- a", "\u2003===", "\x00<a", "\n# a", "\n---", "\xff# a", "\xc3---",
		"ģ a", "ĭĭĭ", "Īĭ", "Šššš", "ŠŠŠ", "žžž", "ľ a", "ī a", "ıĮ a", "Ľ", "ļa", "＃ a", "－－－", "＞ a", "１. a", "１) a", "＜a",
	}
}

// P801, P802: lines that begin nothing.
func TestNothing(t *testing.T) {
	for _, s := range others() {
		check(t, "Heading", s, headingOf(s), heading{})
		check(t, "Rule", s, Rule(s), false)
		check(t, "Fence", s, fenceOf(s), fence{})
		check(t, "Closes", s, Closes(s, '`', 1) || Closes(s, '~', 0), false)
		check(t, "Quote", s, quoteOf(s), quote{})
		check(t, "Item", s, itemOf(s), item{})
		check(t, "Under", s, Under(s), 0)
		check(t, "Html", s, Html(s), false)
	}
}

// P801, P802: up to three blanks may stand ahead, and no tab: it is four columns, or ends at the fourth.
func TestIndent(t *testing.T) {
	for _, blanks := range []string{"", " ", "  ", "   "} {
		check(t, "Heading", blanks, headingOf(blanks+"## a"), heading{2, "a", true})
		check(t, "Rule", blanks, Rule(blanks+"***"), true)
		check(t, "Fence", blanks, fenceOf(blanks+"~~~ a"), fence{'~', 3, "a", true})
		check(t, "Closes", blanks, Closes(blanks+"~~~", '~', 3), true)
		check(t, "Quote", blanks, quoteOf(blanks+"> a"), quote{"a", true})
		check(t, "Item", blanks, itemOf(blanks+"- a"), item{'-', -1, len(blanks) + 2, "a", true})
		check(t, "Item", blanks, itemOf(blanks+"12. a"), item{'.', 12, len(blanks) + 4, "a", true})
		check(t, "Under", blanks, Under(blanks+"="), 1)
		check(t, "Under", blanks, Under(blanks+"-"), 2)
		check(t, "Html", blanks, Html(blanks+"<a"), true)
	}
	for _, blanks := range []string{"    ", "     ", strings.Repeat(" ", 99), "\t", " \t", "  \t", "   \t", "\t ", "\t\t", "    \t"} {
		check(t, "Heading", blanks, headingOf(blanks+"## a"), heading{})
		check(t, "Rule", blanks, Rule(blanks+"***"), false)
		check(t, "Fence", blanks, fenceOf(blanks+"~~~ a"), fence{})
		check(t, "Closes", blanks, Closes(blanks+"~~~", '~', 3), false)
		check(t, "Quote", blanks, quoteOf(blanks+"> a"), quote{})
		check(t, "Item", blanks, itemOf(blanks+"- a"), item{})
		check(t, "Item", blanks, itemOf(blanks+"12. a"), item{})
		check(t, "Under", blanks, Under(blanks+"="), 0)
		check(t, "Under", blanks, Under(blanks+"-"), 0)
		check(t, "Html", blanks, Html(blanks+"<a"), false)
	}
}

// P801: what stands in the chapter of Heading, by examples.
func TestHeading(t *testing.T) {
	for s, want := range map[string]heading{
		"# a":      {1, "a", true},
		"## a":     {2, "a", true},
		"### a":    {3, "a", true},
		"#### a":   {4, "a", true},
		"##### a":  {5, "a", true},
		"###### a": {6, "a", true},
		// A blank, a tab, or the end.
		"#":        {1, "", true},
		"######":   {6, "", true},
		"#\ta":     {1, "a", true},
		"# ":       {1, "", true},
		"###\t":    {3, "", true},
		"#######":  {},
		"####### ": {},
		"#a":       {},
		"##a b":    {},
		"#\\ a":    {},
		"#\u00a0a": {},
		"#\r":      {},
		"#\xff a":  {},
		// Blanks and tabs at both ends go, and nothing else.
		"#   a b  ":       {1, "a b", true},
		"# \t a\t b\t \t": {1, "a\t b", true},
		"# \u00a0a\u2003": {1, "\u00a0a\u2003", true},
		"# a\r":           {1, "a\r", true},
		// A row of # at the end.
		"# a #":            {1, "a", true},
		"# a ########## ":  {1, "a", true},
		"## a\t#\t":        {2, "a", true},
		"# a \t \t ##  \t": {1, "a", true},
		"# a#":             {1, "a#", true},
		"# a## ##":         {1, "a##", true},
		"# a # #":          {1, "a #", true},
		"# a # b":          {1, "a # b", true},
		"# a #b":           {1, "a #b", true},
		"# a \\#":          {1, "a \\#", true},
		"# a #\\":          {1, "a #\\", true},
		"# a\u00a0#":       {1, "a\u00a0#", true},
		"# é #":            {1, "é", true},
		"# \xff #":         {1, "\xff", true},
		"# \xff#":          {1, "\xff#", true},
		// A row that is all of it.
		"# #":          {1, "", true},
		"#\t#":         {1, "", true},
		"#  ######## ": {1, "", true},
		"###### #":     {6, "", true},
		"# # #":        {1, "#", true},
		"# #a":         {1, "#a", true},
		"# ## a":       {1, "## a", true},
		// A label is text like others here.
		"# a {=x}": {1, "a {=x}", true},
	} {
		check(t, "Heading", s, headingOf(s), want)
	}
}

// P801: what stands in the chapter of Rule, by examples.
func TestRule(t *testing.T) {
	for _, s := range []string{"---", "***", "___", "----------", "- - -", "-  -\t-", "* **", "** *", "_\t_\t_", "---  ", "*** \t", "   _ _ _ "} {
		check(t, "Rule", s, Rule(s), true)
	}
	for _, s := range []string{"-", "--", "**", "__", "- -", "_ _  ", "--*", "*-*", "-*-*-*", "___-", "- - *", "+++", "===", "```", "~~~", "###", "...", "--- a", "---a", "a---", "-a--", "--\u00a0-", "---\u00a0", "---\r", "---\n", "\\---", "--\\-", "- --é", "---\xff", "–––", "———", "1. - -"} {
		check(t, "Rule", s, Rule(s), false)
	}
}

// P801: what stands in the chapter of Fence, by examples.
func TestFence(t *testing.T) {
	for s, want := range map[string]fence{
		"```":        {'`', 3, "", true},
		"~~~":        {'~', 3, "", true},
		"``````````": {'`', 10, "", true},
		"~~~~":       {'~', 4, "", true},
		// The info, without blanks and tabs at both ends.
		"```go":          {'`', 3, "go", true},
		"``` \t go x \t": {'`', 3, "go x", true},
		"~~~\ta\tb\t":    {'~', 3, "a\tb", true},
		"```  ":          {'`', 3, "", true},
		"~~~ \u00a0a":    {'~', 3, "\u00a0a", true},
		"~~~\r":          {'~', 3, "\r", true},
		"~~~é\xff":       {'~', 3, "é\xff", true},
		// Backquotes in it, and the other sign.
		"```a`":     {},
		"``` `":     {},
		"``` ```":   {},
		"```a\\`b":  {},
		"~~~ `":     {'~', 3, "`", true},
		"~~~ ```":   {'~', 3, "```", true},
		"~~~```":    {'~', 3, "```", true},
		"~~~ ~~~":   {'~', 3, "~~~", true},
		"~~~a~":     {'~', 3, "a~", true},
		"``` ~":     {'`', 3, "~", true},
		"```~~~":    {'`', 3, "~~~", true},
		"````~~~~~": {'`', 4, "~~~~~", true},
		// Too few of one.
		"`":       {},
		"``":      {},
		"~":       {},
		"~~":      {},
		"``~":     {},
		"~~`":     {},
		"~~ ~":    {},
		"`` a":    {},
		"~~a~":    {},
		"---":     {},
		"′′′":     {},
		"`\xff``": {},
	} {
		check(t, "Fence", s, fenceOf(s), want)
	}
}

// P801: what stands in the chapter of Closes, by examples.
func TestCloses(t *testing.T) {
	for _, c := range []struct {
		s    string
		c    byte
		n    int
		want bool
	}{
		{"```", '`', 3, true},
		{"~~~", '~', 3, true},
		// So many or more.
		{"```", '`', 2, true},
		{"```", '`', 4, false},
		{"~~~~~~", '~', 4, true},
		{"``", '`', 3, false},
		{"~", '~', 1, true},
		{"~~~", '~', math.MaxInt, false},
		// At least one.
		{"~", '~', 0, true},
		{"~", '~', -1, true},
		{"~", '~', math.MinInt, true},
		{"", '~', 0, false},
		{"", '~', math.MinInt, false},
		{" ", '~', 0, false},
		{"a", '~', -1, false},
		// Of the same sign.
		{"```", '~', 3, false},
		{"~~~", '`', 3, false},
		{"```~", '`', 3, false},
		{"~~~`", '~', 3, false},
		// Blanks and tabs behind, and nothing else.
		{"``` ", '`', 3, true},
		{"```\t \t", '`', 3, true},
		{"```a", '`', 3, false},
		{"``` a", '`', 3, false},
		{"``` `", '`', 1, false},
		{"``` ```", '`', 3, false},
		{"a```", '`', 3, false},
		{"```\u00a0", '`', 3, false},
		{"```\r", '`', 3, false},
		{"```\n", '`', 3, false},
		{"```\xff", '`', 3, false},
		// Any sign, but none stands behind blanks that is one.
		{"aa", 'a', 2, true},
		{"#", '#', 1, true},
		{"\x00\x00", 0, 2, true},
		{"aa", 'b', 1, false},
		{"  ", ' ', 1, false},
		{"   ", ' ', 0, false},
		{"\t", '\t', 1, false},
		// Signs that are bytes of no rune, or of a part of one.
		{"\xff\xff\xff ", 0xff, 3, true},
		{"\xff\xff", 0xff, 3, false},
		{"\xff", 0xfe, 1, false},
		{"\x80\x80", 0x80, 2, true},
		{"\xc3\xc3", 0xc3, 2, true},
		{"\xc3é", 0xc3, 1, false},
		{"é", 0xc3, 1, false},
		{"é", 0xa9, 1, false},
		{"éé", 0xc3, 1, false},
		{"\ufffd", 0xef, 1, false},
		{"\ufffd", 0xff, 1, false},
		{"~é", '~', 1, false},
	} {
		if got := Closes(c.s, c.c, c.n); got != c.want {
			t.Errorf("Closes(%q, %q, %d): %v", c.s, c.c, c.n, got)
		}
	}
}

// P801: Closes of each sign, by so many.
func TestClosesOfEachByte(t *testing.T) {
	for b := range 256 {
		sign := string([]byte{byte(b)})
		may := b != ' ' && b != '\t'
		for n := -1; n < 6; n++ {
			for size := range 6 {
				s := "  " + strings.Repeat(sign, size) + " \t"
				if got, want := Closes(s, byte(b), n), may && size >= max(n, 1); got != want {
					t.Errorf("Closes(%q, %q, %d): %v", s, byte(b), n, got)
				}
			}
		}
		for other := range 256 {
			if other == b || other == ' ' || other == '\t' {
				continue
			}
			if s := sign + string([]byte{byte(other)}); Closes(s, byte(b), 1) {
				t.Errorf("Closes(%q, %q, 1): true", s, byte(b))
			}
		}
	}
}

// P801: a row has bytes that are the sign, also where they begin a rune.
func TestRow(t *testing.T) {
	every.Text([]string{"a", "\xc3", "\xa9", "\xef", "\xbf", "\xbd", "\xff"}, 5, func(s string) {
		for _, c := range []byte{'a', 0xc3, 0xa9, 0xef, 0xbf, 0xbd, 0xff} {
			want := 0
			for want < len(s) && s[want] == c {
				want++
			}
			if got := row(s, c); got != want {
				t.Fatalf("row(%q, %q): %d, not %d", s, c, got, want)
			}
		}
	})
}

// P801: what stands in the chapter of Quote, by examples.
func TestQuote(t *testing.T) {
	for s, want := range map[string]quote{
		">":         {"", true},
		"> ":        {"", true},
		">  ":       {" ", true},
		">a":        {"a", true},
		"> a":       {"a", true},
		">  a ":     {" a ", true},
		">     a":   {"    a", true},
		">\ta":      {"\ta", true},
		"> \ta":     {"\ta", true},
		">>":        {">", true},
		"> > a":     {"> a", true},
		">> > a":    {"> > a", true},
		"> # a":     {"# a", true},
		">\u00a0a":  {"\u00a0a", true},
		">é\xff":    {"é\xff", true},
		">\r":       {"\r", true},
		"< a":       {},
		"- > a":     {},
		"\\> a":     {},
		"&gt; a":    {},
		"\u00a0> a": {},
	} {
		check(t, "Quote", s, quoteOf(s), want)
	}
}

// P802: what stands in the chapter of Item, by examples.
func TestItem(t *testing.T) {
	for s, want := range map[string]item{
		"- a":    {'-', -1, 2, "a", true},
		"+ a":    {'+', -1, 2, "a", true},
		"* a":    {'*', -1, 2, "a", true},
		"1. a":   {'.', 1, 3, "a", true},
		"2) a":   {')', 2, 3, "a", true},
		"- a ":   {'-', -1, 2, "a ", true},
		"- é":    {'-', -1, 2, "é", true},
		"- \xff": {'-', -1, 2, "\xff", true},
		// One to nine digits.
		"0. a":          {'.', 0, 3, "a", true},
		"000. a":        {'.', 0, 5, "a", true},
		"000000012) a":  {')', 12, 11, "a", true},
		"999999999. a":  {'.', 999999999, 11, "a", true},
		"123456789) a":  {')', 123456789, 11, "a", true},
		"1234567890. a": {},
		"0000000001. a": {},
		". a":           {},
		") a":           {},
		"1 . a":         {},
		"1a. a":         {},
		"1, a":          {},
		"1: a":          {},
		"(1) a":         {},
		"-1. a":         {},
		"+1. a":         {},
		"1.. a":         {},
		"1.) a":         {},
		"1- a":          {},
		"a. a":          {},
		"½. a":          {},
		"٣. a":          {},
		"1\xff. a":      {},
		// Then a blank, or the end; no tab, nor anything else.
		"-":        {'-', -1, 2, "", true},
		"+":        {'+', -1, 2, "", true},
		"*":        {'*', -1, 2, "", true},
		"1.":       {'.', 1, 3, "", true},
		"   12)":   {')', 12, 7, "", true},
		"-a":       {},
		"-\ta":     {},
		"-\t":      {},
		"1.\ta":    {},
		"1.a":      {},
		"1)a":      {},
		"-\u00a0a": {},
		"-\r":      {},
		"--":       {},
		"-- a":     {},
		"-+ a":     {},
		"** a":     {},
		"**a**":    {},
		"_ a":      {},
		"• a":      {},
		// One to four blanks that have something behind them.
		"-  a":       {'-', -1, 3, "a", true},
		"-   a":      {'-', -1, 4, "a", true},
		"-    a":     {'-', -1, 5, "a", true},
		"-     a":    {'-', -1, 2, "    a", true},
		"-      a":   {'-', -1, 2, "     a", true},
		"12.    a":   {'.', 12, 7, "a", true},
		"12.     a":  {'.', 12, 4, "    a", true},
		"   -    a":  {'-', -1, 8, "a", true},
		"   -     a": {'-', -1, 5, "    a", true},
		// Nothing behind them.
		"- ":      {'-', -1, 2, "", true},
		"-  ":     {'-', -1, 2, " ", true},
		"-    ":   {'-', -1, 2, "   ", true},
		"-     ":  {'-', -1, 2, "    ", true},
		"  1)   ": {')', 1, 5, "  ", true},
		// A tab is something.
		"- \ta":     {'-', -1, 2, "\ta", true},
		"-  \t":     {'-', -1, 3, "\t", true},
		"-    \ta":  {'-', -1, 5, "\ta", true},
		"-     \ta": {'-', -1, 2, "    \ta", true},
		"- \u00a0":  {'-', -1, 2, "\u00a0", true},
		"1.   \r":   {'.', 1, 5, "\r", true},
		// Not a Rule.
		"- - -":     {},
		"-  -   -":  {},
		"* * *":     {},
		"* **":      {},
		"- --":      {},
		"- \t- -":   {},
		"   - - - ": {},
		"- -":       {'-', -1, 2, "-", true},
		"* *":       {'*', -1, 2, "*", true},
		"- - a":     {'-', -1, 2, "- a", true},
		"- * -":     {'-', -1, 2, "* -", true},
		"- * * *":   {'-', -1, 2, "* * *", true},
		"+ + +":     {'+', -1, 2, "+ +", true},
		"1. - - -":  {'.', 1, 3, "- - -", true},
		"- 1. a":    {'-', -1, 2, "1. a", true},
		"- > a":     {'-', -1, 2, "> a", true},
	} {
		check(t, "Item", s, itemOf(s), want)
	}
}

// P802: each number of an item is told.
func TestItemNumbers(t *testing.T) {
	for n := 1; n < 1e9; n = n*3 + n%7 {
		digits := strconv.Itoa(n)
		check(t, "Item", digits, itemOf(digits+". a"), item{'.', n, len(digits) + 2, "a", true})
		check(t, "Item", digits, itemOf(digits+")"), item{')', n, len(digits) + 2, "", true})
	}
}

// P802: what stands in the chapter of Under, by examples.
func TestUnder(t *testing.T) {
	for s, want := range map[string]int{
		"=": 1, "==": 1, "==========": 1, "= ": 1, "=\t": 1, "===  \t ": 1, "   ==": 1,
		"-": 2, "--": 2, "---": 2, "----------": 2, "- ": 2, "-\t": 2, "---  \t ": 2, "   --": 2,
		"= =": 0, "- -": 0, "- - -": 0, "=-": 0, "-=": 0, "==-": 0, "--=": 0, "=a": 0, "= a": 0, "-a": 0, "- a": 0, "a=": 0, "***": 0, "___": 0, "~": 0, "+": 0, "#": 0,
		"=\u00a0": 0, "-\u00a0": 0, "=\r": 0, "-\n": 0, "=\xff": 0, "\xff-": 0, "–": 0, "＝": 0,
	} {
		check(t, "Under", s, Under(s), want)
	}
}

// P802: what stands in the chapter of Html, by examples.
func TestHtml(t *testing.T) {
	for _, s := range []string{"<a", "<z", "<A", "<Z", "<m", "<M>", "</", "</a>", "<!", "<!-- a -->", "<![CDATA[", "<?", "<?a?>", "<a href=\"b\">", "   <b", "<a\xff", "<http://a>"} {
		check(t, "Html", s, Html(s), true)
	}
	for _, s := range []string{"<", "< a", "<\ta", "<<a", "<>", "<1", "<-", "<=", "<_", "<\\a", "<&", "<é", "<Ä", "<\xff", "<\xc3", "<\u00a0a", "<ſ", "<ａ", "<š", "<\r", "<\n", "&lt;a", "\\<a", "a", "/", "!", "?", "/a>", "!--", "a <b>", "＜a"} {
		check(t, "Html", s, Html(s), false)
	}
}

// P802: of all bytes, those of letters and of three signs go on behind a <.
func TestHtmlOfEachByte(t *testing.T) {
	const may = "abcdefghijklmnopqrstuvwxyzABCDEFGHIJKLMNOPQRSTUVWXYZ/!?"
	for b := range 256 {
		s := string([]byte{'<', byte(b)})
		check(t, "Html", s, Html(s), strings.IndexByte(may, byte(b)) >= 0)
	}
}

// The calls said another way: a line's blanks, and signs that are asked for by expressions.
var (
	headingLine = regexp.MustCompile(`^ {0,3}(#{1,6})([ \t](?s:.*))?$`)
	ruleLine    = regexp.MustCompile(`^ {0,3}(-[ \t]*-[ \t]*-[- \t]*|\*[ \t]*\*[ \t]*\*[* \t]*|_[ \t]*_[ \t]*_[_ \t]*)$`)
	quillFence  = regexp.MustCompile("^ {0,3}(`{3,})[ \\t]*([^`]*)$")
	tildeFence  = regexp.MustCompile(`^ {0,3}(~{3,})[ \t]*((?s:.*))$`)
	quoteLine   = regexp.MustCompile(`^ {0,3}> ?((?s:.*))$`)
	itemLine    = regexp.MustCompile(`^( {0,3}(?:[-+*]|[0-9]{1,9}[.)]))( (?s:.*))?$`)
	shortGap    = regexp.MustCompile(`^ {1,4}[^ ]`)
	firstUnder  = regexp.MustCompile(`^ {0,3}=+[ \t]*$`)
	secondUnder = regexp.MustCompile(`^ {0,3}-+[ \t]*$`)
	htmlLine    = regexp.MustCompile(`^ {0,3}<[A-Za-z/!?]`)
)

func wantHeading(s string) heading {
	m := headingLine.FindStringSubmatch(s)
	if m == nil {
		return heading{}
	}
	text := strings.Trim(m[2], " \t")
	// A row at the end is the last of the words that blanks and tabs part.
	word := text[strings.LastIndexAny(text, " \t")+1:]
	if strings.Count(word, "#") == len(word) {
		text = strings.TrimRight(strings.TrimSuffix(text, word), " \t")
	}
	return heading{len(m[1]), text, true}
}

func wantFence(s string) fence {
	m := quillFence.FindStringSubmatch(s)
	if m == nil {
		m = tildeFence.FindStringSubmatch(s)
	}
	if m == nil {
		return fence{}
	}
	return fence{m[1][0], len(m[1]), strings.TrimRight(m[2], " \t"), true}
}

func wantCloses(s string, c byte, n int) bool {
	if line.Indent(s) > 3 {
		return false
	}
	x := []byte(strings.TrimRight(strings.TrimLeft(s, " \t"), " \t"))
	return len(x) > 0 && len(x) >= n && slices.Min(x) == c && slices.Max(x) == c
}

func wantQuote(s string) quote {
	m := quoteLine.FindStringSubmatch(s)
	if m == nil {
		return quote{}
	}
	return quote{m[1], true}
}

func wantItem(s string) item {
	m := itemLine.FindStringSubmatch(s)
	if m == nil || ruleLine.MatchString(s) {
		return item{}
	}
	sign, rest := m[1], m[2]
	number, err := strconv.Atoi(strings.TrimLeft(sign[:len(sign)-1], " "))
	if err != nil {
		number = -1
	}
	gap := 1
	if shortGap.MatchString(rest) {
		gap = len(rest) - len(strings.TrimLeft(rest, " "))
	}
	return item{sign[len(sign)-1], number, len(sign) + gap, rest[min(gap, len(rest)):], true}
}

func wantUnder(s string) int {
	switch {
	case firstUnder.MatchString(s):
		return 1
	case secondUnder.MatchString(s):
		return 2
	}
	return 0
}

// checkAll holds every call of a line against the same said another way.
func checkAll(t *testing.T, s string) {
	t.Helper()
	check(t, "Heading", s, headingOf(s), wantHeading(s))
	check(t, "Rule", s, Rule(s), ruleLine.MatchString(s))
	check(t, "Fence", s, fenceOf(s), wantFence(s))
	check(t, "Quote", s, quoteOf(s), wantQuote(s))
	check(t, "Item", s, itemOf(s), wantItem(s))
	check(t, "Under", s, Under(s), wantUnder(s))
	check(t, "Html", s, Html(s), htmlLine.MatchString(s))
}

// checkEvery holds every line of up to most of the pieces.
func checkEvery(t *testing.T, most int, pieces ...string) {
	t.Helper()
	every.Text(pieces, most, func(s string) {
		if t.Failed() {
			return
		}
		checkAll(t, s)
	})
}

// P801, P802: every call of every short line of awkward pieces, of all signs, and of the signs of each.
func TestAll(t *testing.T) {
	checkEvery(t, 4, " ", "   ", "\t", "#", "-", "*", "_", "+", "=", "`", "~", ">", "<", "1", ".", ")", "/", "a", "é", "\xff")
	checkEvery(t, 6, " ", "\t", "#", "#####", "a", "\\", "\u00a0")
	checkEvery(t, 7, " ", "\t", "-", "*", "_", "é")
	checkEvery(t, 6, " ", "\t", "`", "``", "~", "~~", "a")
	checkEvery(t, 6, " ", "   ", "\t", "-", "+", "a", "\xc3")
	checkEvery(t, 6, " ", "    ", "1", "0000", ".", ")", "a")
	checkEvery(t, 6, " ", "\t", ">", "<", "a", "!", "\xff")
	checkEvery(t, 6, " ", "\t", "=", "-", "\n", "\r")
}

// P801: Closes of every short line, by each sign and number.
func TestClosesOfAll(t *testing.T) {
	every.Text([]string{" ", "\t", "`", "~", "a", "\xc3", "é"}, 5, func(s string) {
		for _, c := range []byte{'`', '~', 'a', ' ', '\t', 0xc3, 0xa9} {
			for n := -1; n <= 4; n++ {
				want := c != ' ' && c != '\t' && wantCloses(s, c, n)
				if got := Closes(s, c, n); got != want {
					t.Fatalf("Closes(%q, %q, %d): %v", s, c, n, got)
				}
			}
		}
	})
}

// P801, P802: what is asked of one line is not seen in another, nor in the same one later.
func TestTwice(t *testing.T) {
	lines := append(others(), "# a #", "---", "```x", "~~~", "> a", "- a", "12) a", "===", "<a")
	var first []item
	for _, s := range lines {
		first = append(first, itemOf(s))
	}
	for i, s := range slices.Backward(lines) {
		checkAll(t, s)
		check(t, "Item", s, itemOf(s), first[i])
	}
}

// P801, P802: of long lines, too, each byte is asked a few times.
func TestLong(t *testing.T) {
	const n = 1 << 20
	long := func(s string) string { return strings.Repeat(s, n) }
	check(t, "Heading", "long", headingOf("# a"+long(" \t")+long("#")), heading{1, "a", true})
	check(t, "Heading", "long", headingOf(long("#")), heading{})
	check(t, "Rule", "long", Rule(long("-\t ")), true)
	check(t, "Rule", "long", Rule(long("-\t ")+"a"), false)
	check(t, "Fence", "long", fenceOf(long("`")+"a"+long(" ")), fence{'`', n, "a", true})
	check(t, "Closes", "long", Closes(long("~")+long(" "), '~', n), true)
	check(t, "Closes", "long", Closes(long("~"), '~', n+1), false)
	check(t, "Quote", "long", quoteOf(long(">")), quote{long(">")[1:], true})
	check(t, "Item", "long", itemOf("-"+long(" ")+"a"), item{'-', -1, 2, long(" ")[1:] + "a", true})
	check(t, "Item", "long", itemOf(long("1")+". a"), item{})
	check(t, "Item", "long", itemOf(long(" ")+"- a"), item{})
	check(t, "Under", "long", Under(long("=")+long("\t")), 1)
	check(t, "Html", "long", Html("<"+long("<")), false)
}
