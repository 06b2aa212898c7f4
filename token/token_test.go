package token

import (
	"fmt"
	"math"
	"regexp"
	"slices"
	"strconv"
	"strings"
	"testing"

	"bowdler/entity"
	"bowdler/every"
	"bowdler/repair"
)

// l is a list of tokens.
func l(tokens ...any) []any { return tokens }

func told(tokens ...any) string { return fmt.Sprintf("%.400q", fmt.Sprintf("%#v", tokens)) }

// checkAll holds what All answers of a text.
func checkAll(t *testing.T, s string, want ...any) {
	t.Helper()
	if got := All(s); !slices.Equal(got, want) {
		t.Errorf("All(%.200q): %s, not %s", s, told(got...), told(want...))
	}
}

// checkFirst holds what Next answers of the beginning of a text.
func checkFirst(t *testing.T, s string, want any, size int) {
	t.Helper()
	if got, next := Next(s, 0); got != want || next != size {
		t.Errorf("Next(%.200q, 0): %s and %d, not %s and %d", s, told(got), next, told(want), size)
	}
}

// bytes are all bytes, each as a text.
func bytes(f func(b byte, sign string)) {
	for b := range 256 {
		f(byte(b), string([]byte{byte(b)}))
	}
}

func isIn(set string, b byte) bool { return strings.IndexByte(set, b) >= 0 }

const (
	letters = "abcdefghijklmnopqrstuvwxyzABCDEFGHIJKLMNOPQRSTUVWXYZ"
	digits  = "0123456789"
)

func long(n int) string { return strings.Repeat("x", n) }

func link(url string) Auto { return Auto{url, url} }

func mail(to string) Auto { return Auto{"mailto:" + to, to} }

// P1202: from 0 on, one behind the other.
func TestAll(t *testing.T) {
	checkAll(t, "")
	checkAll(t, "a *b", Word("a"), Word(" "), Run{'*', 1}, Word("b"))
	checkAll(t, "a", Word("a"))
	checkAll(t, "![a *b*](/c)  \n d`e`\x0012\x00<br><a@b>\\**é\xff", Mark{"!["}, Word("a"), Word(" "), Run{'*', 1}, Word("b"), Run{'*', 1}, Mark{"]"}, Word("(/c)"),
		Break{true}, Word("d"), Code("e"), Atom{12}, Tag("<br>"), mail("a@b"), Word("*"), Run{'*', 1}, Word("é\xff"))
	first := All("a *b")
	first[0] = nil
	checkAll(t, "a *b", Word("a"), Word(" "), Run{'*', 1}, Word("b"))
}

// P1201: nil and 0, if there is no such byte.
func TestNextOfNoPlace(t *testing.T) {
	for _, s := range []string{"", "a", "**", "`a`", "\x000\x00", "é", long(1000)} {
		for _, i := range []int{len(s), len(s) + 1, math.MaxInt, -1, -2, math.MinInt} {
			if v, next := Next(s, i); v != nil || next != 0 {
				t.Errorf("Next(%.20q, %d): %s and %d", s, i, told(v), next)
			}
		}
	}
}

// P1201: a token begins at any byte, also within what another one has.
func TestNextAnywhere(t *testing.T) {
	for _, c := range []struct {
		s    string
		i    int
		want any
		next int
	}{
		{"a *b", 0, Word("a"), 1},
		{"a *b", 1, Word(" "), 2},
		{"a *b", 2, Run{'*', 1}, 3},
		{"a *b", 3, Word("b"), 4},
		{"***a", 1, Run{'*', 2}, 3},
		{"![a", 1, Mark{"["}, 2},
		{"abc", 1, Word("bc"), 3},
		{"\\*a", 1, Run{'*', 1}, 2},
		{"&amp;", 1, Word("amp;"), 5},
		{"``a`", 1, Code("a"), 4},
		{"`a`b`", 2, Code("b"), 5},
		{"<a@b>", 1, Word("a@b>"), 5},
		{"é*", 1, Word("\xa9"), 2},
		{"   \n", 1, Break{true}, 4},
		{"   \n", 2, Break{false}, 4},
		{"   \n", 3, Break{false}, 4},
		{"   a", 1, Word("  "), 3},
		{"\x001\x002\x00", 2, Atom{2}, 5},
	} {
		if got, next := Next(c.s, c.i); got != c.want || next != c.next {
			t.Errorf("Next(%q, %d): %s and %d, not %s and %d", c.s, c.i, told(got), next, told(c.want), c.next)
		}
	}
}

// P1201: atoms, by examples.
func TestAtoms(t *testing.T) {
	for n := range 10000 {
		checkFirst(t, "\x00"+strconv.Itoa(n)+"\x00", Atom{n}, len(strconv.Itoa(n))+2)
	}
	checkAll(t, "\x000000\x00", Atom{0})
	checkAll(t, "\x0007\x00", Atom{7})
	checkAll(t, "a\x001\x002\x003\x00", Word("a"), Atom{1}, Word("2"), Atom{3})
	checkAll(t, "\x001\x00\x002\x00", Atom{1}, Atom{2})
	// None.
	checkAll(t, "\x00", Word("\x00"))
	checkAll(t, "\x00\x00", Word("\x00"), Word("\x00"))
	checkAll(t, "\x00\x005\x00", Word("\x00"), Atom{5})
	checkAll(t, "\x001", Word("\x001"))
	checkAll(t, "\x0000001\x00", Word("\x0000001"), Word("\x00"))
	checkAll(t, "\x0012345\x00", Word("\x0012345"), Word("\x00"))
	checkAll(t, "\x00"+strings.Repeat("9", 100)+"\x00", Word("\x00"+strings.Repeat("9", 100)), Word("\x00"))
	checkAll(t, "\x00a\x00", Word("\x00a"), Word("\x00"))
	checkAll(t, "\x00-1\x00", Word("\x00-1"), Word("\x00"))
	checkAll(t, "\x00+1\x00", Word("\x00+1"), Word("\x00"))
	checkAll(t, "\x00 1\x00", Word("\x00"), Word(" "), Word("1"), Word("\x00"))
	checkAll(t, "\x001*\x00", Word("\x001"), Run{'*', 1}, Word("\x00"))
	checkAll(t, "\x00٣\x00", Word("\x00٣"), Word("\x00"))
	bytes(func(b byte, sign string) {
		if isIn(digits, b) {
			checkFirst(t, "\x00"+sign+"\x00", Atom{int(b - '0')}, 3)
			checkFirst(t, "\x001"+sign+"2\x00", Atom{102 + 10*int(b-'0')}, 5)
			return
		}
		for _, s := range []string{"\x00" + sign + "\x00", "\x00" + sign + "2\x00", "\x001" + sign + "2\x00"} {
			if v, _ := Next(s, 0); isAtom(v) && b != 0 {
				t.Errorf("Next(%q, 0): %s", s, told(v))
			}
		}
	})
}

func isAtom(v any) bool {
	_, is := v.(Atom)
	return is
}

// P1201: backslashes ahead of every byte, and of none.
func TestBackslashes(t *testing.T) {
	bytes(func(b byte, sign string) {
		s := "\\" + sign + "a"
		switch {
		case b == '\n':
			checkAll(t, s, Break{true}, Word("a"))
		case repair.Ascii(b):
			checkAll(t, s, Word(sign), Word("a"))
		case b == ' ':
			checkAll(t, s, Word("\\"), Word(" "), Word("a"))
		case b == 0:
			checkAll(t, s, Word("\\"), Word("\x00a"))
		default:
			checkAll(t, s, Word("\\"+sign+"a"))
		}
	})
	checkAll(t, "\\", Word("\\"))
	checkAll(t, "\\\\", Word("\\"))
	checkAll(t, "\\\\\\", Word("\\"), Word("\\"))
	checkAll(t, "\\é\\(b", Word("\\é"), Word("("), Word("b"))
	checkAll(t, "\\**", Word("*"), Run{'*', 1})
	checkAll(t, "\\![", Word("!"), Mark{"["})
	checkAll(t, "\\`a`", Word("`"), Word("a"), Word("`"))
	checkAll(t, "\\<a>", Word("<"), Word("a>"))
	checkAll(t, "\\&amp;", Word("&"), Word("amp;"))
	// Ends of lines.
	checkAll(t, "\\\n", Break{true})
	checkAll(t, "a\\\n \t \tb", Word("a"), Break{true}, Word("b"))
	checkAll(t, "\\\n\n", Break{true}, Break{false})
	checkAll(t, "\\\n  \n", Break{true}, Break{false})
	checkAll(t, " \\\n", Word(" "), Break{true})
	checkAll(t, "\\ \n", Word("\\"), Break{false})
	checkAll(t, "\\\r\n", Word("\\\r"), Break{false})
	checkAll(t, "\\\n\vb", Break{true}, Word("\vb"))
	checkAll(t, "\\\\\n", Word("\\"), Break{false})
}

// P1201: entities, and what is none.
func TestEntities(t *testing.T) {
	for _, name := range entity.Names() {
		text, _ := entity.Named(name)
		checkAll(t, "a&"+name+";b", Word("a"), Word(text), Word("b"))
		checkAll(t, "a&"+name, Word("a"), Word("&"+name))
	}
	checkAll(t, "&#233;&#xe9;&#Xe9;", Word("é"), Word("é"), Word("é"))
	checkAll(t, "&#0;", Word("\ufffd"))
	checkAll(t, "&#42;a&#42;", Word("*"), Word("a"), Word("*"))
	checkAll(t, "&#10;", Word("\n"))
	checkAll(t, "&lt;a>", Word("<"), Word("a>"))
	checkAll(t, "&", Word("&"))
	checkAll(t, "&&amp;", Word("&"), Word("&"))
	checkAll(t, "&amp&amp;", Word("&amp"), Word("&"))
	checkAll(t, "&none;", Word("&none;"))
	checkAll(t, "&#12345678;", Word("&#12345678;"))
	checkAll(t, "& amp;", Word("&"), Word(" "), Word("amp;"))
}

// P1201: code, by examples.
func TestCode(t *testing.T) {
	for s, want := range map[string]string{
		"`a`":         "a",
		"``a``":       "a",
		"``a`b``":     "a`b",
		"`a``b`":      "a``b",
		"`` ` ``":     "`",
		"` `` `":      "``",
		"```a``b```":  "a``b",
		"``\\``":      "\\",
		"`\\`":        "\\",
		"`*a* [b]`":   "*a* [b]",
		"`&amp;`":     "&amp;",
		"`<a`":        "<a",
		"`\x000\x00`": "\x000\x00",
		"`é\xff`":     "é\xff",
		// LFs are blanks.
		"`a\nb`":    "a b",
		"`a\n\nb`":  "a  b",
		"`\na\n`":   "a",
		"`\n`":      " ",
		"`\n\n`":    "  ",
		"`a\n \tb`": "a  \tb",
		"`a\\\nb`":  "a\\ b",
		"`a\rb`":    "a\rb",
		// One blank goes at each end.
		"` a `":      "a",
		"`  a `":     " a",
		"` a  `":     "a ",
		"`  a  `":    " a ",
		"` a`":       " a",
		"`a `":       "a ",
		"`a b`":      "a b",
		"` a b `":    "a b",
		"`\na `":     "a",
		"` a\n`":     "a",
		"` \ta\t `":  "\ta\t",
		"` \t `":     "\t",
		"`\ta\t`":    "\ta\t",
		"` \t`":      " \t",
		"` \u00a0 `": "\u00a0",
		"` `":        " ",
		"`  `":       "  ",
		"`   `":      "   ",
		"` \n `":     "   ",
	} {
		checkAll(t, s, Code(want))
		checkAll(t, "a"+s+"b", Word("a"), Code(want), Word("b"))
		checkFirst(t, s+"a`", Code(want), len(s))
	}
}

// P1201: rows of backquotes that no other one closes.
func TestNoCode(t *testing.T) {
	checkAll(t, "`", Word("`"))
	checkAll(t, "``", Word("``"))
	checkAll(t, "`a", Word("`"), Word("a"))
	checkAll(t, "a`", Word("a"), Word("`"))
	checkAll(t, "``a`", Word("``"), Word("a"), Word("`"))
	checkAll(t, "`a``", Word("`"), Word("a"), Word("``"))
	checkAll(t, "``a```", Word("``"), Word("a"), Word("```"))
	checkAll(t, "`a``b", Word("`"), Word("a"), Word("``"), Word("b"))
	checkAll(t, "```a``b``", Word("```"), Word("a"), Code("b"))
	checkAll(t, "`a``*b*``", Word("`"), Word("a"), Code("*b*"))
	checkAll(t, "`\\``", Word("`"), Word("`"), Word("`"))
	checkAll(t, "`\n\n``", Word("`"), Break{false}, Break{false}, Word("``"))
	checkAll(t, "´a´", Word("´a´"))
	for n := range 20 {
		for m := range 20 {
			if n == 0 || m == 0 || n == m {
				continue
			}
			open, other := strings.Repeat("`", n), strings.Repeat("`", m)
			checkAll(t, open+"a"+other, Word(open), Word("a"), Word(other))
			checkAll(t, open+"a"+other+"b"+open, Code("a"+other+"b"))
		}
	}
}

// checkWord holds that a text begins with a word that has no more than the text.
func checkWord(t *testing.T, s string) {
	t.Helper()
	v, size := Next(s, 0)
	if w, is := v.(Word); !is || size == 0 || string(w) != s[:size] {
		t.Errorf("Next(%.200q, 0): %s and %d", s, told(v), size)
	}
}

// checkAuto holds that a text between signs is a link, and that it is none with a sign less, or more.
func checkAuto(t *testing.T, text string, want Auto) {
	t.Helper()
	checkFirst(t, "<"+text+">", want, len(text)+2)
	checkAll(t, "a<"+text+">>", Word("a"), want, Word(">"))
	for _, s := range []string{"<" + text, "< " + text + ">", "<" + text + " >", "</" + text + ">", "<<" + text + ">"} {
		checkWord(t, s)
	}
}

// P1201: links between signs, by examples.
func TestAutos(t *testing.T) {
	for _, url := range []string{
		"http:x", "ab:", "http://a.b/c?d=e&f#g", "A+b.c-1:x", "a1:", "a+:", "a.:", "a-:", "ab::", "ab:a@b.c", "mailto:a@b", "javascript:x",
		"ab:é\xff", "ab:\u00a0", "ab:`*_[]!\\&amp;", "ab:\"'", "ab:\x80", strings.Repeat("a", 32) + ":", "ab:" + long(1000), "x" + strings.Repeat("-", 31) + ":",
	} {
		checkAuto(t, url, link(url))
	}
	for _, to := range []string{
		"a@b", "a@b.c", "1@1", "a.-_+1@b", "-@-", ".@.", "_@b", "+@b", "a..b@c..d", "A@B", long(1000) + "@" + long(1000), "abc-def@g-h.i",
	} {
		checkAuto(t, to, mail(to))
	}
	for _, s := range []string{
		"<a:b>", "<:>", "<:b>", "<1a:b>", "<+a:b>", "<.a:b>", "<-a:b>", "<éa:b>", "<aé:b>", "<a_b:c>", "<" + strings.Repeat("a", 33) + ":>", "<ab:c d>", "<ab:c\n>", "<ab:<c>",
		"<@>", "<@b>", "<a@>", "<a@b@c>", "<a@b_c>", "<a@b+c>", "<a@b c>", "<é@b>", "<a@é>", "<mailto@>", "<a\\@b>", "<a@b/>", "<a:b@c>",
	} {
		checkWord(t, s)
	}
}

// P1201: of all bytes, those that may be at each place of a link.
func TestAutosOfEachByte(t *testing.T) {
	bytes(func(b byte, sign string) {
		for _, c := range []struct {
			head, tail string
			may        bool
			made       func(string) Auto
		}{
			{"", "a:x", isIn(letters, b), link},
			{"a", ":x", isIn(letters+digits+"+.-", b), link},
			{"a", "a:x", isIn(letters+digits+"+.-", b), link},
			{"a+", "1:x", isIn(letters+digits+"+.-:", b), link},
			{"ab", "x", b == ':', link},
			{"ab:", "", b > 32 && b != 127 && !isIn("<>", b), link},
			{"ab:x", "y", b > 32 && b != 127 && !isIn("<>", b), link},
			{"", "@a", isIn(letters+digits+".-_+", b), mail},
			{"a", "b@a", isIn(letters+digits+".-_+@", b) && b != '@', mail},
			{"a", "a", b == '@', mail},
			{"a@", "", isIn(letters+digits+"-.", b), mail},
			{"a@b", "c", isIn(letters+digits+"-.", b), mail},
		} {
			text := c.head + sign + c.tail
			if c.may {
				checkFirst(t, "<"+text+">", c.made(text), len(text)+2)
			} else if v, _ := Next("<"+text+">", 0); v == c.made(text) {
				t.Errorf("Next(%q, 0): %s", "<"+text+">", told(v))
			}
		}
		for _, c := range []struct {
			text string
			v    any
		}{
			{"<ab:", link("ab:")}, {"<a@b", mail("a@b")}, {"<a", Tag("<a>")}, {"<a ", Tag("<a >")},
		} {
			if v, _ := Next(c.text+sign, 0); (v == c.v) != (b == '>') {
				t.Errorf("Next(%q, 0): %s", c.text+sign, told(v))
			}
		}
	})
}

// P1201: tags, by examples.
func TestTags(t *testing.T) {
	for _, s := range []string{
		"<a>", "</a>", "<A1>", "<a->", "<h1>", "<br/>", "<br />", "</a />", "<a/b>", "<a //>", "<a >", "<a  >", "<a\n>", "<a \n\t>", "</a >", "</a\n>", "</a/>", "<x-y-1 z>",
		"<a b='c'>", "<a b=\"*c*\" `d` [e] \\& &amp;>", "<a b='c'\nd>", "<a é\xff\x01\x7f>", "<a @b>", "<a/@b>", "<a \\>", "<" + long(1000) + ">", "<a " + long(1000) + ">", "<" + strings.Repeat("a", 33) + " :>",
	} {
		checkFirst(t, s, Tag(s), len(s))
		checkAll(t, "a"+s+">", Word("a"), Tag(s), Word(">"))
		checkWord(t, s[:len(s)-1])
		checkWord(t, "<"+s)
		checkWord(t, "< "+s[1:])
		checkWord(t, "<//"+s[1:])
		checkWord(t, s[:len(s)-1]+"<b>")
		checkWord(t, s[:len(s)-1]+"\x000\x00>")
	}
	for _, s := range []string{
		"<", ">", "</", "<>", "</>", "<//>", "<1>", "<1a>", "<-a>", "</1>", "<_a>", "<a_>", "<a.>", "<a:>", "<a@>", "<a\t>", "<a\tb>", "<a\r>", "<a*>", "<a\x00>", "<a \x00>", "<é>", "<aé>", "<a\u00a0b>", "<!a>", "<!-- a -->", "<?a?>", "<a <b",
	} {
		checkWord(t, s)
	}
	checkAll(t, "<a <b>", Word("<a"), Word(" "), Tag("<b>"))
	checkAll(t, "<<a>", Word("<"), Tag("<a>"))
	checkAll(t, "<a\n<b", Word("<a"), Break{false}, Word("<b"))
	checkAll(t, "<a_b>", Word("<a"), Run{'_', 1}, Word("b>"))
	checkAll(t, "<!-- a -->", Word("<"), Word("!--"), Word(" "), Word("a"), Word(" "), Word("-->"))
}

// P1201: of all bytes, those that may be at each place of a tag.
func TestTagsOfEachByte(t *testing.T) {
	bytes(func(b byte, sign string) {
		for _, c := range []struct {
			head, tail string
			may        bool
		}{
			{"<", ">", isIn(letters, b)},
			{"<", "a>", isIn(letters+"/", b)},
			{"</", ">", isIn(letters, b)},
			{"</", "a>", isIn(letters, b)},
			{"<a", ">", isIn(letters+digits+"- \n/", b)},
			{"</a", "a>", isIn(letters+digits+"- \n/", b)},
			{"<a", "_>", isIn(" \n/", b)},
			{"<a ", ">", !isIn("<>\x00", b)},
			{"<a\nb", "c>", !isIn("<>\x00", b)},
			{"<a/", ">", !isIn("<>\x00", b)},
		} {
			s := c.head + sign + c.tail
			v, size := Next(s, 0)
			if is := v == Tag(s) && size == len(s); is != c.may {
				t.Errorf("Next(%q, 0): %s and %d", s, told(v), size)
			}
		}
	})
}

// P1201: rows of stars and of underscores, and brackets.
func TestRunsAndMarks(t *testing.T) {
	for _, n := range []int{1, 2, 3, 4, 100, 1000} {
		for _, sign := range []byte("*_") {
			row := strings.Repeat(string(sign), n)
			checkAll(t, row, Run{sign, n})
			checkAll(t, "a"+row+"b", Word("a"), Run{sign, n}, Word("b"))
			checkAll(t, "\\\\"+row+" ", Word("\\"), Run{sign, n}, Word(" "))
		}
	}
	checkAll(t, "*_**__*", Run{'*', 1}, Run{'_', 1}, Run{'*', 2}, Run{'_', 2}, Run{'*', 1})
	checkAll(t, "* *\n*", Run{'*', 1}, Word(" "), Run{'*', 1}, Break{false}, Run{'*', 1})
	checkAll(t, "＊＿", Word("＊＿"))
	checkAll(t, "[", Mark{"["})
	checkAll(t, "]", Mark{"]"})
	checkAll(t, "![", Mark{"!["})
	checkAll(t, "[[]]", Mark{"["}, Mark{"["}, Mark{"]"}, Mark{"]"})
	checkAll(t, "![![!]", Mark{"!["}, Mark{"!["}, Word("!"), Mark{"]"})
	checkAll(t, "!", Word("!"))
	checkAll(t, "!!", Word("!"), Word("!"))
	checkAll(t, "!![", Word("!"), Mark{"!["})
	checkAll(t, "![]", Mark{"!["}, Mark{"]"})
	checkAll(t, "!]", Word("!"), Mark{"]"})
	checkAll(t, "! [", Word("!"), Word(" "), Mark{"["})
	checkAll(t, "!a![", Word("!a"), Mark{"!["})
	checkAll(t, "!\\[", Word("!"), Word("["))
	checkAll(t, "（［］）！", Word("（［］）！"))
}

// P1201: ends of lines, and the blanks around them.
func TestBreaks(t *testing.T) {
	for n := range 5 {
		for _, behind := range []string{"", " ", "  ", "\t", " \t \t", strings.Repeat(" ", 50)} {
			s := strings.Repeat(" ", n) + "\n" + behind
			checkAll(t, s, Break{n >= 2})
			checkAll(t, "a"+s+"b", Word("a"), Break{n >= 2}, Word("b"))
			checkAll(t, "a"+s+"\n"+s+"*", Word("a"), Break{n >= 2}, Break{false}, Break{false}, Run{'*', 1})
		}
	}
	checkAll(t, strings.Repeat(" ", 1000)+"\n", Break{true})
	checkAll(t, "\n\n", Break{false}, Break{false})
	checkAll(t, "a\t\nb", Word("a\t"), Break{false}, Word("b"))
	checkAll(t, "  \t\nb", Word("  "), Word("\t"), Break{false}, Word("b"))
	checkAll(t, "a\t  \nb", Word("a\t"), Break{true}, Word("b"))
	checkAll(t, "a\u00a0\u00a0\nb", Word("a\u00a0\u00a0"), Break{false}, Word("b"))
	checkAll(t, "a  \r\nb", Word("a"), Word("  "), Word("\r"), Break{false}, Word("b"))
	bytes(func(b byte, sign string) {
		if v, next := Next("\n "+sign+"a", 0); v != (Break{false}) || (next > 2) != isIn(" \t", b) {
			t.Errorf("Next(%q, 0): %s and %d", "\n "+sign+"a", told(v), next)
		}
	})
}

// P1201: words, and each byte that ends one.
func TestWords(t *testing.T) {
	bytes(func(b byte, sign string) {
		s := "a" + sign + "1"
		if isIn("\x00\\&`<*_![]\n ", b) {
			checkFirst(t, s, Word("a"), 1)
		} else {
			checkAll(t, s, Word(s))
			checkAll(t, sign+sign+"b", Word(sign+sign+"b"))
		}
	})
	checkAll(t, "é€😀\xff\x80", Word("é€😀\xff\x80"))
	checkAll(t, long(1000), Word(long(1000)))
	checkAll(t, "(a)>#-+\"'{|}~;:,.?=%@^$/\t\r\v\x7f", Word("(a)>#-+\"'{|}~;:,.?=%@^$/\t\r\v\x7f"))
	checkAll(t, "a  b c", Word("a"), Word("  "), Word("b"), Word(" "), Word("c"))
	checkAll(t, "   ", Word("   "))
	checkAll(t, " \ta ", Word(" "), Word("\ta"), Word(" "))
	checkAll(t, "  *", Word("  "), Run{'*', 1})
	checkAll(t, " &<\\", Word(" "), Word("&"), Word("<"), Word("\\"))
	checkAll(t, "&&<<", Word("&"), Word("&"), Word("<"), Word("<"))
	checkAll(t, "\u00a0 \u3000", Word("\u00a0"), Word(" "), Word("\u3000"))
}

// Like is no Word, but a text like one.
type Like string

// P1202: the text of a Word; it panics of all else.
func TestMustWord(t *testing.T) {
	for _, s := range []string{"", "a", " ", "é\xff\x00"} {
		if got := MustWord(Word(s)); got != s {
			t.Errorf("MustWord of the Word %q: %q", s, got)
		}
	}
	if v, _ := Next("&amp;", 0); MustWord(v) != "&" {
		t.Errorf("MustWord of what Next tells: %q", MustWord(v))
	}
	w := Word("a")
	for _, v := range []any{
		nil, "a", []byte("a"), Like("a"), &w, []any{w}, Code("a"), Tag("<a>"), Auto{"a", "a"}, Run{'*', 1}, Mark{"["}, Break{true}, Atom{1}, 'a', 1, (*Word)(nil), error(nil),
	} {
		if !panics(v) {
			t.Errorf("MustWord(%#v) does not panic", v)
		}
	}
}

func panics(v any) (is bool) {
	defer func() { is = recover() != nil }()
	MustWord(v)
	return false
}

// form is a way in which a token may stand in a text.
type form struct {
	is   *regexp.Regexp
	made func(m []string) any
}

func formOf(e string, made func(m []string) any) form {
	return form{regexp.MustCompile("(?s)^(?:" + e + ")"), made}
}

// forms are the chapter said another way, in its order: what it says of entities and of code stands between these two lists.
func formsAhead() []form {
	return []form{
		formOf("\\x00([0-9]{1,4})\\x00", func(m []string) any { n, _ := strconv.Atoi(m[1]); return Atom{n} }),
		formOf("\\\\([!-/:-@\\[-`{-~])", func(m []string) any { return Word(m[1]) }),
		formOf("\\\\\\n[ \\t]*", func(m []string) any { return Break{true} }),
	}
}

func formsBehind() []form {
	return []form{
		formOf("<([A-Za-z][A-Za-z0-9+.-]{1,31}:[^\\x00- <>\\x7f]*)>", func(m []string) any { return link(m[1]) }),
		formOf("<([A-Za-z0-9.\\-_+]+@[A-Za-z0-9.-]+)>", func(m []string) any { return mail(m[1]) }),
		formOf("</?[A-Za-z][A-Za-z0-9-]*(?:[ \\n/][^<>\\x00]*)?>", func(m []string) any { return Tag(m[0]) }),
		formOf("\\*+|_+", func(m []string) any { return Run{m[0][0], len(m[0])} }),
		formOf("!\\[|\\[|\\]", func(m []string) any { return Mark{m[0]} }),
		formOf("( *)\\n[ \\t]*", func(m []string) any { return Break{len(m[1]) > 1} }),
		formOf(" +|[^ ][^\\x00\\\\&`<*_!\\[\\]\\n ]*", func(m []string) any { return Word(m[0]) }),
	}
}

var rowOfQuotes = regexp.MustCompile("`+")

// wantCode tells the code, or the row of backquotes, that s begins with.
func wantCode(s string) (any, int) {
	rows := rowOfQuotes.FindAllStringIndex(s, -1)
	n := rows[0][1]
	for _, row := range rows[1:] {
		if row[1]-row[0] != n {
			continue
		}
		text := strings.ReplaceAll(s[n:row[0]], "\n", " ")
		if strings.HasPrefix(text, " ") && strings.HasSuffix(text, " ") && strings.Trim(text, " ") != "" {
			text = text[1 : len(text)-1]
		}
		return Code(text), row[1]
	}
	return Word(s[:n]), n
}

// want tells the token that s begins with.
func want(s string, ahead, behind []form) (any, int) {
	if s == "" {
		return nil, 0
	}
	for _, f := range ahead {
		if m := f.is.FindStringSubmatch(s); m != nil {
			return f.made(m), len(m[0])
		}
	}
	if text, size := entity.At(s); size > 0 {
		return Word(text), size
	}
	if s[0] == '`' {
		return wantCode(s)
	}
	for _, f := range behind {
		if m := f.is.FindStringSubmatch(s); m != nil {
			return f.made(m), len(m[0])
		}
	}
	return nil, 0
}

// P1201, P1202: each place of every short text of awkward pieces, against the chapter said another way.
func TestOfAll(t *testing.T) {
	ahead, behind := formsAhead(), formsBehind()
	for _, c := range []struct {
		pieces []string
		most   int
		around string
	}{
		{[]string{"a", "1", "\x00", "\\", "&", "amp;", "`", "<", ">", "*", "_", "!", "[", "]", "\n", " ", "\t", ":", "@", "/", "-", ".", "+", "é", "\xff", "\x7f"}, 3, ""},
		{[]string{"`", "``", " ", "\n", "a", "\\"}, 6, ""},
		{[]string{"a", "B1", ":", "@", "/", " ", "-", ".", "_", "+", "\n", "\x00", ">", "<", "é"}, 4, "<>"},
		{[]string{"a", "b1", ":", "@", "/", " ", "."}, 5, "<>"},
		{[]string{"\x00", "0", "12", "345", "*"}, 5, ""},
		{[]string{" ", "\n", "\t", "\\", "a"}, 6, ""},
		{[]string{"*", "_", "!", "[", "]", "\\"}, 5, ""},
		{[]string{"&", "amp;", "#", "65;", "x", "\\"}, 5, ""},
	} {
		every.Text(c.pieces, c.most, func(s string) {
			if c.around != "" {
				s = c.around[:1] + s + c.around[1:]
			}
			checkPlaces(t, s, ahead, behind)
		})
		if t.Failed() {
			return
		}
	}
}

// checkPlaces holds what Next answers of each byte of a text, and All of it.
func checkPlaces(t *testing.T, s string, ahead, behind []form) {
	var all []any
	told := 0
	for i := range len(s) {
		v, size := want(s[i:], ahead, behind)
		if i == told {
			all = append(all, v)
			told += size
		}
		if got, next := Next(s, i); got != v || next != i+size {
			t.Errorf("Next(%q, %d): %#v and %d, not %#v and %d", s, i, got, next, v, i+size)
		}
	}
	checkAll(t, s, all...)
}

// P1202: long texts, each in a moment.
func TestLong(t *testing.T) {
	const n = 1 << 18
	for _, s := range []string{
		"a", " ", "\n", "*", "`", "` `` ", "`` ` ", "<", "<a ", "<a@", "<ab:", "<a\n", "</", "&", "&#", "&amp", "\\", "!", "[", "\x00", "\x001", "\x00" + "12345", "\xff", "\t", " \t", "<a:", "é ",
	} {
		long := strings.Repeat(s, n/len(s))
		at := 0
		for _, v := range All(long) {
			got, next := Next(long, at)
			if got != v || next <= at {
				t.Fatalf("All of many %q: %s at %d", s, told(v), at)
			}
			at = next
		}
		if at != len(long) {
			t.Errorf("All of many %q ends at %d of %d", s, at, len(long))
		}
	}
}

// P1201: rows of backquotes of which no two are alike are words, however many there are.
func TestManyRowsOfQuotes(t *testing.T) {
	var s strings.Builder
	var all []any
	for n := 1; n < 600; n++ {
		row := strings.Repeat("`", n)
		s.WriteString(row + "a")
		all = append(all, Word(row), Word("a"))
	}
	checkAll(t, s.String(), all...)
}
