package inline

import (
	"fmt"
	"math/rand"
	"regexp"
	"slices"
	"strconv"
	"strings"
	"testing"
	"unicode/utf8"

	"bowdler/api"
	"bowdler/define"
	"bowdler/emph"
	"bowdler/every"
	"bowdler/flank"
	"bowdler/repair"
	"bowdler/target"
	"bowdler/token"
)

// long is a name of so many bytes.
func long(n int) string { return strings.Repeat("n", n) }

// filled is a table of links and notes.
func filled() *define.Table {
	t := &define.Table{}
	for _, d := range []api.Def{
		{Name: "x", Url: "/x"}, {Name: "a b", Url: "/ab", Title: "t"}, {Name: "é", Url: "/é"}, {Name: "*", Url: "/star"}, {Name: "a `", Url: "/code"},
		{Name: "\\", Url: "/back"}, {Name: "`", Url: "/quote"}, {Name: "b\\*", Url: "/b"}, {Name: "x (y)", Url: "/xy"}, {Name: long(60), Url: "/long"},
		{Name: "n", Text: "a note", Note: true}, {Name: "n n", Text: "one more", Note: true}, {Name: "x", Text: "a third", Note: true},
		{Name: "both", Text: "of two", Note: true}, {Name: "^both", Url: "/both"}, {Name: "#both", Url: "/cross"}, {Name: "#", Url: "/sign"},
		{Name: "*n*", Text: "stars", Note: true}, {Name: "^n", Text: "another name", Note: true}, {Name: long(60), Text: "long", Note: true},
	} {
		t.Add(d)
	}
	return t
}

var spans = []Atom{{"low", "*s*"}, {"hi", "[x] \x000\x00"}, {"", ""}, {"c`", "`\x000\x00`a](/b)"}, {"n", "[^n][#c]\nx  \ny"}}

// told are nodes as a text in which no two lists are told alike.
func told(l []api.Inl) string { return fmt.Sprintf("%.2000q", fmt.Sprintf("%+v", l)) }

func node(kind, depth int) api.Inl { return api.Inl{Kind: kind, Depth: depth} }

func text(depth int, s string) api.Inl { return api.Inl{Kind: api.Words, Depth: depth, Text: s} }

func named(kind, depth int, s string) api.Inl { return api.Inl{Kind: kind, Depth: depth, Text: s} }

func link(depth int, url, title string) api.Inl {
	return api.Inl{Kind: api.Link, Depth: depth, Url: url, Title: title}
}

func image(depth int, url, title, s string) api.Inl {
	return api.Inl{Kind: api.Image, Depth: depth, Url: url, Title: title, Text: s}
}

// check holds the nodes of a text, with the spans and the table that are filled.
func check(t *testing.T, s string, want ...api.Inl) {
	t.Helper()
	if got := Parse(s, spans, filled()); !slices.Equal(got, want) {
		t.Errorf("Parse(%.200q): %s, not %s", s, told(got), told(want))
	}
}

// written are nodes with signs around what lies in them.
func written(l []api.Inl) string {
	var out strings.Builder
	var open []string
	for _, x := range append(slices.Clone(l), text(0, "")) {
		for len(open) > x.Depth {
			out.WriteString(open[len(open)-1])
			open = open[:len(open)-1]
		}
		begin, end := signs(x)
		out.WriteString(begin)
		if len(open) == x.Depth && end != "" {
			open = append(open, end)
		}
	}
	return out.String()
}

func signs(x api.Inl) (string, string) {
	leads := x.Url
	if x.Title != "" {
		leads += "|" + x.Title
	}
	switch x.Kind {
	case api.Words:
		return x.Text, ""
	case api.Verb:
		return "<c>" + x.Text + "</c>", ""
	case api.Emph:
		return "<e>", "</e>"
	case api.Strong:
		return "<s>", "</s>"
	case api.Link:
		return "<l " + leads + ">", "</l>"
	case api.Image:
		return "<i " + leads + ">" + x.Text + "</i>", ""
	case api.Soft:
		return "<br>", ""
	case api.Hard:
		return "<BR>", ""
	case api.Tag:
		return "<t>" + x.Text + "</t>", ""
	case api.Note:
		return "<n " + x.Text + ">", ""
	case api.Cross:
		return "<x " + x.Text + ">", ""
	case api.Span:
		return "<p " + x.Text + ">", "</p>"
	}
	return "<none>", ""
}

// checkRead holds texts as they are read by hand.
func checkRead(t *testing.T, texts map[string]string) {
	t.Helper()
	table := filled()
	for s, want := range texts {
		if got := written(Parse(s, spans, table)); got != want {
			t.Errorf("Parse(%q): %q, not %q", s, got, want)
		}
	}
}

// P1501: each kind of token, with all that its node has.
func TestTokens(t *testing.T) {
	check(t, "")
	check(t, "a b", text(0, "a b"))
	check(t, "\\*a&amp;b\\[", text(0, "*a&b["))
	check(t, "a`b *c*`", text(0, "a"), named(api.Verb, 0, "b *c*"))
	check(t, "``", text(0, "``"))
	check(t, "` `", named(api.Verb, 0, " "))
	check(t, "a<b c>d", text(0, "a"), named(api.Tag, 0, "<b c>"), text(0, "d"))
	check(t, "<ab:*c*>", link(0, "ab:*c*", ""), text(1, "ab:*c*"))
	check(t, "<a@b>", link(0, "mailto:a@b", ""), text(1, "a@b"))
	check(t, "a\nb", text(0, "a"), node(api.Soft, 0), text(0, "b"))
	check(t, "a \n b", text(0, "a"), node(api.Soft, 0), text(0, "b"))
	check(t, "a  \nb", text(0, "a"), node(api.Hard, 0), text(0, "b"))
	check(t, "a\\\nb", text(0, "a"), node(api.Hard, 0), text(0, "b"))
	check(t, "*a*", node(api.Emph, 0), text(1, "a"))
	check(t, "__a__", node(api.Strong, 0), text(1, "a"))
	check(t, "[*a*](/b 't')", link(0, "/b", "t"), node(api.Emph, 1), text(2, "a"))
	check(t, "![*a*](/b 't')", image(0, "/b", "t", "a"))
	check(t, "[*a*][a b]", link(0, "/ab", "t"), node(api.Emph, 1), text(2, "a"))
	check(t, "![A  b]", image(0, "/ab", "t", "A  b"))
	check(t, "a[^N  n]b", text(0, "a"), named(api.Note, 0, "n n"), text(0, "b"))
	check(t, "a[#b-1]c", text(0, "a"), named(api.Cross, 0, "b-1"), text(0, "c"))
	check(t, "a\x000\x00b", text(0, "a"), named(api.Span, 0, "low"), node(api.Emph, 1), text(2, "s"), text(0, "b"))
	check(t, "\xff\x00a", text(0, "\xff\x00a"))
	// Each as deep as what it lies in.
	check(t, "*a `b` <c> <ab:d> [x] ![x] [^n] [#e] \x000\x00\nf*", node(api.Emph, 0), text(1, "a "), named(api.Verb, 1, "b"), text(1, " "), named(api.Tag, 1, "<c>"), text(1, " "),
		link(1, "ab:d", ""), text(2, "ab:d"), text(1, " "), link(1, "/x", ""), text(2, "x"), text(1, " "), image(1, "/x", "", "x"), text(1, " "),
		named(api.Note, 1, "n"), text(1, " "), named(api.Cross, 1, "e"), text(1, " "), named(api.Span, 1, "low"), node(api.Emph, 2), text(3, "s"), node(api.Soft, 1), text(1, "f"))
}

// P1501: rows are read with what stands around them in the text, and paired.
func TestRows(t *testing.T) {
	checkRead(t, map[string]string{
		"***a***":           "<e><s>a</s></e>",
		"*a":                "*a",
		"a*":                "a*",
		"* a*":              "* a*",
		"a*b*c":             "a<e>b</e>c",
		"a_b_c":             "a_b_c",
		"_a_b":              "_a_b",
		"a_b_":              "a_b_",
		"(_a_)":             "(<e>a</e>)",
		"é_a_":              "é_a_",
		"¿_a_?":             "¿<e>a</e>?",
		"*\u00a0a*":         "*\u00a0a*",
		"*a*b*":             "<e>a</e>b*",
		"*a _b* c_":         "<e>a _b</e> c_",
		"**a*":              "*<e>a</e>",
		"*a**b*":            "<e>a**b</e>",
		"a**\n*b*":          "a**<br><e>b</e>",
		"*a\nb*":            "<e>a<br>b</e>",
		"*a\n*":             "*a<br>*",
		"*\na*":             "*<br>a*",
		"\\**a*":            "*<e>a</e>",
		"*a\\**":            "<e>a*</e>",
		"&#42;a*":           "*a*",
		"a&nbsp;*b*":        "a\u00a0<e>b</e>",
		"_a&amp;_b":         "_a&_b",
		"*`*`a*":            "<e><c>*</c>a</e>",
		"*<a *>*":           "<e><t><a *></t></e>",
		"_`a`_b":            "_<c>a</c>_b",
		"_<a>_b":            "_<t><a></t>_b",
		"b_<ab:c>_":         "b_<l ab:c>ab:c</l>_",
		"_[_a_]_":           "<e>[<e>a</e>]</e>",
		"_\x000\x00_":       "<e><p low><e>s</e></p></e>",
		"_\x000\x00_a":      "_<p low><e>s</e></p>_a",
		"a_\x000\x00_":      "a_<p low><e>s</e></p>_",
		"*\x000\x00*":       "<e><p low><e>s</e></p></e>",
		"*\x009\x00*":       "<e></e>",
		"**\x009\x00**a":    "<s></s>a",
		"*_\x009\x00_*":     "<e><e></e></e>",
		"_\x009\x00_a":      "__a",
		"*a [b* c](/d)":     "*a <l /d>b* c</l>",
		"[a *b](/c) d*":     "<l /c>a *b</l> d*",
		"*a ![b* c](/d)*":   "<e>a <i /d>b* c</i></e>",
		"*[a*](/b)*":        "<e><l /b>a*</l></e>",
		"[*a](/b)*c*":       "<l /b>*a</l><e>c</e>",
		"[*a](/b)*c* d*":    "<l /b>*a</l><e>c</e> d*",
		"[**a*](/b)*":       "<l /b>*<e>a</e></l>*",
		"**[a](/b)**":       "<s><l /b>a</l></s>",
		"*[^*n*]*":          "<e><n *n*></e>",
		"*a [^*n*] b*":      "<e>a <n *n*> b</e>",
		"*a [b*":            "<e>a [b</e>",
		"*a ]b*":            "<e>a ]b</e>",
		"*a [b* c] d*":      "<e>a [b</e> c] d*",
		"[a *b] c*](/d)":    "[a <e>b] c</e>](/d)",
		"[[*a] b*](/c)":     "<l /c>[<e>a] b</e></l>",
		"![[*a] b*](/c)":    "<i /c>[a] b</i>",
		"[a](/b)_c_":        "<l /b>a</l><e>c</e>",
		"_a_[b](/c)":        "<e>a</e><l /c>b</l>",
		"[x]_c_":            "<l /x>x</l><e>c</e>",
		"*[x]*[x]*":         "<e><l /x>x</l></e><l /x>x</l>*",
		"\x000\x00*a*":      "<p low><e>s</e></p><e>a</e>",
		"*\x003\x00a*](/b)": "<e><p c`><c></c>a](/b)</p>a</e>](/b)",
	})
}

// P1501: atoms' bytes in code are their texts, as they are.
func TestCode(t *testing.T) {
	for s, want := range map[string]string{
		"`\x000\x00`":                         "*s*",
		"`a \x000\x00\x009\x00b`":             "a *s*b",
		"``\x003\x00``":                       "`\x000\x00`a](/b)",
		"`\x001\x00`":                         "[x] \x000\x00",
		"`\x004\x00`":                         "[^n][#c]\nx  \ny",
		"`\x002\x00`":                         "",
		"`\x005\x00`":                         "",
		"`\x009999\x00\x000000\x00`":          "*s*",
		"`\x0000\x00`":                        "*s*",
		"`\x00\x00`":                          "\x00\x00",
		"`\x00`":                              "\x00",
		"`\x00 0\x00`":                        "\x00 0\x00",
		"`\x0000000\x00`":                     "\x0000000\x00",
		"`\x00-1\x00`":                        "\x00-1\x00",
		"`\x000`":                             "\x000",
		"`0\x00`":                             "0\x00",
		"`\x000\x000\x00`":                    "*s*0\x00",
		"`\x00\x000\x00`":                     "\x00*s*",
		"`\x00\x000\x00\x00`":                 "\x00*s*\x00",
		"`\x0000000\x000\x00\x001a\x002\x00`": "\x0000000*s*\x001a",
		"` \x000\x00 `":                       "*s*",
		"`\xff\x000\x00é\xc3`":                "\xff*s*é\xc3",
		"`&amp;\\`":                           "&amp;\\",
		"`\n\x000\x00\n`":                     "*s*",
	} {
		check(t, s, named(api.Verb, 0, want))
	}
	if got := Parse("`\x000\x00\x00-1\x00`", nil, nil); !slices.Equal(got, []api.Inl{named(api.Verb, 0, "\x00-1\x00")}) {
		t.Errorf("code without atoms: %s", told(got))
	}
}

// P1501: an atom is a span of its own nodes, in which there are no atoms, but the same names.
func TestAtoms(t *testing.T) {
	checkRead(t, map[string]string{
		"\x000\x00":              "<p low><e>s</e></p>",
		"\x001\x00":              "<p hi><l /x>x</l> </p>",
		"\x002\x00a":             "<p ></p>a",
		"\x003\x00":              "<p c`><c></c>a](/b)</p>",
		"\x004\x00":              "<p n><n n><x c><br>x<BR>y</p>",
		"\x005\x00a":             "a",
		"a\x009999\x00b":         "ab",
		"\x0000\x00":             "<p low><e>s</e></p>",
		"\x0000000\x00":          "\x0000000\x00",
		"\x000\x00\x001\x00":     "<p low><e>s</e></p><p hi><l /x>x</l> </p>",
		"\x000\x001\x00":         "<p low><e>s</e></p>1\x00",
		"[\x000\x00](/a)":        "<l /a><p low><e>s</e></p></l>",
		"[\x001\x00](/a)":        "<l /a><p hi><l /x>x</l> </p></l>",
		"![\x000\x00](/a)":       "<i /a>s</i>",
		"![\x001\x00 a](/a)":     "<i /a>x  a</i>",
		"[x\x000\x00]":           "[x<p low><e>s</e></p>]",
		"[x\x005\x00]":           "[x]",
		"[x\x00]":                "[x\x00]",
		"[^n\x000\x00]":          "[^n<p low><e>s</e></p>]",
		"[#a\x000\x00]":          "[#a<p low><e>s</e></p>]",
		"[a](\x000\x00)":         "[a](<p low><e>s</e></p>)",
		"[a](/b '\x000\x00')":    "[a](/b '<p low><e>s</e></p>')",
		"[a](<\x000\x00>)":       "[a](<<p low><e>s</e></p>>)",
		"[x][\x000\x00]":         "<l /x>x</l>[<p low><e>s</e></p>]",
		"[x][\x005\x00]":         "<l /x>x</l>[]",
		"[x][\x00]":              "<l /x>x</l>[\x00]",
		"[x][ \x00 ]":            "<l /x>x</l>[ \x00 ]",
		"[x][y\x00]":             "<l /x>x</l>[y\x00]",
		"[x][y]\x000\x00":        "[x][y]<p low><e>s</e></p>",
		"<a \x000\x00>":          "<a <p low><e>s</e></p>>",
		"<ab:\x000\x00>":         "<ab:<p low><e>s</e></p>>",
		"[a \x003\x00](/c)":      "<l /c>a <p c`><c></c>a](/b)</p></l>",
		"[a \x001\x00 b](/c)]":   "<l /c>a <p hi><l /x>x</l> </p> b</l>]",
		"[\x004\x00](/c)":        "<l /c><p n><n n><x c><br>x<BR>y</p></l>",
		"![\x004\x00](/c)":       "<i /c> x y</i>",
		"\\\x000\x00":            "\\<p low><e>s</e></p>",
		"&#0;0&#0;":              "\ufffd0\ufffd",
		"a  \n\x000\x00\n *b*":   "a<BR><p low><e>s</e></p><br><e>b</e>",
		"\x000\x00  \n\x000\x00": "<p low><e>s</e></p><BR><p low><e>s</e></p>",
	})
	// What an atom's text has is not read with what stands around it.
	around := []Atom{{"a", "["}, {"b", "](/b)"}, {"c", "*"}, {"d", "`"}, {"e", "\\"}, {"f", "[x"}, {"g", "  "}, {"h", "\x005\x00\x000\x00"}, {"i", "_a_"}}
	for s, want := range map[string]string{
		"\x000\x00x\x001\x00":        "<p a>[</p>x<p b>](/b)</p>",
		"[x\x001\x00":                "[x<p b>](/b)</p>",
		"\x000\x00x](/b)":            "<p a>[</p>x](/b)",
		"\x002\x00x\x002\x00":        "<p c>*</p>x<p c>*</p>",
		"*x\x002\x00":                "*x<p c>*</p>",
		"\x003\x00x\x003\x00":        "<p d>`</p>x<p d>`</p>",
		"\x004\x00*x*":               "<p e>\\</p><e>x</e>",
		"\x005\x00][x]":              "<p f>[x</p>]<l /x>x</l>",
		"\x006\x00\na":               "<p g>  </p><br>a",
		"\x007\x00":                  "<p h></p>",
		"b\x008\x00b":                "b<p i><e>a</e></p>b",
		"[b \x005\x00 c](/d) e](/f)": "<l /d>b <p f>[x</p> c</l> e](/f)",
	} {
		if got := written(Parse(s, around, filled())); got != want {
			t.Errorf("Parse(%q): %q, not %q", s, got, want)
		}
	}
	// All of as many as a token can name.
	var many []Atom
	for n := range 10001 {
		many = append(many, Atom{strconv.Itoa(n), "a"})
	}
	for n := range 10000 {
		id := strconv.Itoa(n)
		want := []api.Inl{named(api.Span, 0, id), text(1, "a")}
		if got := Parse("\x00"+id+"\x00", many, nil); !slices.Equal(got, want) {
			t.Errorf("atom %d: %s", n, told(got))
		}
		if got := Parse("\x00"+id+"\x00", many[:n], nil); len(got) > 0 {
			t.Errorf("atom %d of %d: %s", n, n, told(got))
		}
	}
}

// P1501: links and images that say themselves where they lead.
func TestInside(t *testing.T) {
	checkRead(t, map[string]string{
		"[a](/b)":               "<l /b>a</l>",
		"[a](/b \"t\")c":        "<l /b|t>a</l>c",
		"[a](</b c> 't')":       "<l /b c|t>a</l>",
		"[a]()":                 "<l >a</l>",
		"[](/b)":                "<l /b></l>",
		"[]()":                  "<l ></l>",
		"[a](<>)":               "<l >a</l>",
		"[a]( )":                "<l >a</l>",
		"[a]( (t))":             "<l (t)>a</l>",
		"[a]('t')":              "<l 't'>a</l>",
		"[a](\n/b\n't'\n)":      "<l /b|t>a</l>",
		"[a](b(c)d)e":           "<l b(c)d>a</l>e",
		"[a](b\\)c)d":           "<l b)c>a</l>d",
		"[a](b&amp;c)":          "<l b&c>a</l>",
		"[a](b))":               "<l b>a</l>)",
		"[a](b":                 "[a](b",
		"[a](b c)":              "[a](b c)",
		"[a](b(c)":              "[a](b(c)",
		"[a](<b)c":              "[a](<b)c",
		"[a](<b>c)":             "[a](<t><b></t>c)",
		"[a] (/b)":              "[a] (/b)",
		"[a]\n(/b)":             "[a]<br>(/b)",
		"[a]\\(/b)":             "[a](/b)",
		"[a](*b*)":              "<l *b*>a</l>",
		"[a](*b* *c*)":          "[a](<e>b</e> <e>c</e>)",
		"[a]([x])":              "<l [x]>a</l>",
		"[a]( [x] )":            "<l [x]>a</l>",
		"[a](b [x])":            "[a](b <l /x>x</l>)",
		"[a](`b`)":              "<l `b`>a</l>",
		"![a](/b)":              "<i /b>a</i>",
		"![](/b 't')":           "<i /b|t></i>",
		"![a]()":                "<i >a</i>",
		"![a] (/b)":             "![a] (/b)",
		"\\[a](/b)":             "[a](/b)",
		"[a\\](/b)":             "[a](/b)",
		"[a\\]](/b)":            "<l /b>a]</l>",
		"\\![a](/b)":            "!<l /b>a</l>",
		"!\\[a](/b)":            "![a](/b)",
		"! [a](/b)":             "! <l /b>a</l>",
		"!![a](/b)":             "!<i /b>a</i>",
		"&#91;a](/b)":           "[a](/b)",
		"[a&#93;](/b)":          "<l /b>a]</l>",
		"[a `](/b)`":            "[a <c>](/b)</c>",
		"[a `](/b)":             "<l /b>a `</l>",
		"[`[`](/b)":             "<l /b><c>[</c></l>",
		"[a <b ](/c)>":          "[a <t><b ](/c)></t>",
		"[a <ab:](/c)>](/d)":    "<l /d>a <l ab:](/c)>ab:](/c)</l></l>",
		"[a\nb](/c)":            "<l /c>a<br>b</l>",
		"![a\nb  \nc\\\nd](/e)": "<i /e>a b c d</i>",
		// What is behind it says nothing of a destination, but what is left open in it.
		"[a](b '(') (c":       "<l b|(>a</l> (c",
		"[a](b\t'(')\t(c":     "<l b|(>a</l>\t(c",
		"[a](b\n'(')\n(c":     "<l b|(>a</l><br>(c",
		"[a](b '(') (c\nd":    "<l b|(>a</l> (c<br>d",
		"[a](b)(c (d":         "<l b>a</l>(c (d",
		"[a](\\()(c":          "<l (>a</l>(c",
		"[a](b\\)((c":         "[a](b)((c",
		"[a](b[c](d":          "[a](b[c](d",
		"[a](b[c](d)":         "[a](b<l d>c</l>",
		"[a](b[c](d))":        "<l b[c](d)>a</l>",
		"[a](b[c](d 't')":     "[a](b<l d|t>c</l>",
		"[a](b[c](<(d>)":      "[a](b<l (d>c</l>",
		"[a](<(((b>)[c](((d)": "<l (((b>a</l>[c](((d)",
		// What comes first fits.
		"[x](/a)":      "<l /a>x</l>",
		"[x](/a b)":    "<l /x>x</l>(/a b)",
		"![x](/a b)":   "<i /x>x</i>(/a b)",
		"[x](/a)[x]":   "<l /a>x</l><l /x>x</l>",
		"[y](/a)[x]":   "<l /a>y</l><l /x>x</l>",
		"[y]()[x]":     "<l >y</l><l /x>x</l>",
		"[^n](/a)":     "<n n>(/a)",
		"[#a](/b)":     "<x a>(/b)",
		"![^n](/a)":    "<i /a>^n</i>",
		"![#a](/b)":    "<i /b>#a</i>",
		"[^m](/a)":     "<l /a>^m</l>",
		"[#A](/b)":     "<l /b>#A</l>",
		"[^x](/a)":     "<n x>(/a)",
		"[a](b)(c)":    "<l b>a</l>(c)",
		"[a](b)[c](d)": "<l b>a</l><l d>c</l>",
	})
}

// P1501: links and images that are led by names.
func TestNames(t *testing.T) {
	checkRead(t, map[string]string{
		"[x]":                   "<l /x>x</l>",
		"[X]":                   "<l /x>X</l>",
		"[ x ]":                 "<l /x> x </l>",
		"[A \u00a0b]":           "<l /ab|t>A \u00a0b</l>",
		"[É]":                   "<l /é>É</l>",
		"[y]":                   "[y]",
		"[]":                    "[]",
		"[ ]":                   "[ ]",
		"[n]":                   "[n]",
		"[a\nb]":                "[a<br>b]",
		"[*]":                   "<l /star>*</l>",
		"[*x*]":                 "[<e>x</e>]",
		"[b\\*]":                "<l /b>b*</l>",
		"[\\]":                  "[]",
		"[`]":                   "<l /quote>`</l>",
		"[a `]`":                "[a <c>]</c>",
		"[a `]":                 "<l /code>a `</l>",
		"[" + long(60) + "]":    "<l /long>" + long(60) + "</l>",
		"[" + long(61) + "]":    "[" + long(61) + "]",
		"![x]":                  "<i /x>x</i>",
		"![X]":                  "<i /x>X</i>",
		"![y]":                  "![y]",
		"[x]a":                  "<l /x>x</l>a",
		"[x] [y]":               "<l /x>x</l> [y]",
		"[y] [x]":               "[y] <l /x>x</l>",
		"[y]\n[x]":              "[y]<br><l /x>x</l>",
		"[y][x]":                "<l /x>y</l>",
		"[*y*][ X\t]z":          "<l /x><e>y</e></l>z",
		"![*y*][A B]":           "<i /ab|t>y</i>",
		"[][x]":                 "<l /x></l>",
		"![][x]":                "<i /x></i>",
		"[y][x][a b]":           "<l /x>y</l><l /ab|t>a b</l>",
		"[x][a b]":              "<l /ab|t>x</l>",
		"[x][a b](/c)":          "<l /ab|t>x</l>(/c)",
		"[x][y]":                "[x][y]",
		"![x][y]":               "![x][y]",
		"[x][y][a b]":           "[x]<l /ab|t>y</l>",
		"[a b][y][x]":           "[a b]<l /x>y</l>",
		"[x][y](/c)":            "[x]<l /c>y</l>",
		"[x][n]":                "[x][n]",
		"[x][^n]":               "[x]<n n>",
		"[x][#a]":               "[x]<x a>",
		"[x][^both]":            "<l /both>x</l>",
		"[x][#both]":            "<l /cross>x</l>",
		"[x][]":                 "<l /x>x</l>",
		"[x][]z":                "<l /x>x</l>z",
		"[x][ \t\n\u00a0]z":     "<l /x>x</l>z",
		"![x][]z":               "<i /x>x</i>z",
		"![A b][ ]":             "<i /ab|t>A b</i>",
		"[y][]":                 "[y][]",
		"![y][]":                "![y][]",
		"[y][ ]":                "[y][ ]",
		"[y][](/c)":             "[y]<l /c></l>",
		"[x][](/c)":             "<l /x>x</l>(/c)",
		"[x][][a b]":            "<l /x>x</l><l /ab|t>a b</l>",
		"[x] []":                "<l /x>x</l> []",
		"[x][y":                 "<l /x>x</l>[y",
		"[x][":                  "<l /x>x</l>[",
		"[x][y[]":               "<l /x>x</l>[y[]",
		"[x][[a b]":             "<l /x>x</l>[<l /ab|t>a b</l>",
		"[x][a [b]]":            "<l /x>x</l>[a [b]]",
		"[x][!]":                "[x][!]",
		"[x]![a b]":             "<l /x>x</l><i /ab|t>a b</i>",
		"[x][![a b]]":           "<l /x>x</l>[<i /ab|t>a b</i>]",
		"[x][\\]":               "<l /back>x</l>",
		"[x][\\]]":              "<l /back>x</l>]",
		"[x][`]`]":              "<l /quote>x</l>`]",
		"[x][y\nx]":             "[x][y<br>x]",
		"[x][x\n]":              "[x][x<br>]",
		"[x][x (y)]":            "<l /xy>x</l>",
		"[x (y)]":               "<l /xy>x (y)</l>",
		"[x][" + long(60) + "]": "<l /long>x</l>",
		"[x][" + long(61) + "]": "[x][" + long(61) + "]",
		"[x](":                  "<l /x>x</l>(",
		"[x]: y":                "<l /x>x</l>: y",
		"[x]\\[y]":              "<l /x>x</l>[y]",
		"\\[x][y]":              "[x][y]",
		"\\[x][x]":              "[x]<l /x>x</l>",
		"[x\\][a b]":            "[x]<l /ab|t>a b</l>",
		"*[x*][a b]":            "*<l /ab|t>x*</l>",
		"[x][*]*a*":             "<l /star>x</l><e>a</e>",
		"[x][a b]*c*":           "<l /ab|t>x</l><e>c</e>",
		"[x][]\n*c*":            "<l /x>x</l><br><e>c</e>",
	})
}

// P1501: a bracket of an image that asks for a note or a section is none, and a name's link counts there.
func TestAsked(t *testing.T) {
	checkRead(t, map[string]string{
		"[^n]":                  "<n n>",
		"a[^n]b":                "a<n n>b",
		"[^N]":                  "<n n>",
		"[^ n\tN ]":             "<n n n>",
		"[^n][^n]":              "<n n><n n>",
		"[^*n*]":                "<n *n*>",
		"[^x]":                  "<n x>",
		"[^m]":                  "[^m]",
		"[^]":                   "[^]",
		"[^ ]":                  "[^ ]",
		"[ ^n]":                 "[ ^n]",
		"[^^n]":                 "<n ^n>",
		"[^both]":               "<n both>",
		"![^both]":              "<i /both>^both</i>",
		"[^both][]":             "<n both>[]",
		"![^both][]":            "<i /both>^both</i>",
		"[ ^both]":              "<l /both> ^both</l>",
		"[^a b]":                "[^a b]",
		"[^n\nn]":               "[^n<br>n]",
		"[\\^n]":                "[^n]",
		"\\[^n]":                "[^n]",
		"[^n\\]":                "[^n]",
		"[^" + long(60) + "]":   "<n " + long(60) + ">",
		"[^" + long(61) + "]":   "[^" + long(61) + "]",
		"![^n]":                 "![^n]",
		"![^n][x]":              "<i /x>^n</i>",
		"[^n][x]":               "<n n><l /x>x</l>",
		"[^n]: a":               "<n n>: a",
		"^[n]":                  "^[n]",
		"[^[n]]":                "[^[n]]",
		"[[^n]]":                "[<n n>]",
		"[[^n]](/a)":            "<l /a><n n></l>",
		"[a [^n] b](/c)":        "<l /c>a <n n> b</l>",
		"[a [^n] b][x]":         "<l /x>a <n n> b</l>",
		"![a [^n] b](/c)":       "<i /c>a  b</i>",
		"[#a]":                  "<x a>",
		"a[#a-1-]b":             "a<x a-1->b",
		"[#-]":                  "<x ->",
		"[#0]":                  "<x 0>",
		"[#az09]":               "<x az09>",
		"[#]":                   "<l /sign>#</l>",
		"[##]":                  "[##]",
		"[#A]":                  "[#A]",
		"[#aB]":                 "[#aB]",
		"[#a b]":                "[#a b]",
		"[# a]":                 "[# a]",
		"[#a ]":                 "[#a ]",
		"[ #a]":                 "[ #a]",
		"[#a\n]":                "[#a<br>]",
		"[#a_b]":                "[#a_b]",
		"[#_a_]":                "[#<e>a</e>]",
		"[#é]":                  "[#é]",
		"[#a\xff]":              "[#a\xff]",
		"[#a.b]":                "[#a.b]",
		"[#both]":               "<x both>",
		"![#both]":              "<i /cross>#both</i>",
		"[#a](/b)":              "<x a>(/b)",
		"[#a][x]":               "<x a><l /x>x</l>",
		"[#a][]":                "<x a>[]",
		"![#a]":                 "![#a]",
		"![#a][x]":              "<i /x>#a</i>",
		"[\\#a]":                "[#a]",
		"[a [#b] c](/d)":        "<l /d>a <x b> c</l>",
		"![a [#b] c](/d)":       "<i /d>a  c</i>",
		"[[#a][#b]](/c)":        "<l /c><x a><x b></l>",
		"#[a]":                  "#[a]",
		"*[#a]*":                "<e><x a></e>",
		"[#" + long(1000) + "]": "<x " + long(1000) + ">",
	})
	// Of all bytes, those that may stand in what is asked for.
	for b := range 256 {
		for _, name := range []string{string([]byte{byte(b)}), "a" + string([]byte{byte(b)}), string([]byte{byte(b)}) + "a"} {
			is := 'a' <= b && b <= 'z' || '0' <= b && b <= '9' || b == '-'
			got := Parse("[#"+name+"]", nil, nil)
			if slices.Equal(got, []api.Inl{named(api.Cross, 0, name)}) != is {
				t.Errorf("[#%s]: %s", name, told(got))
			}
		}
	}
}

// P1501: links and images in one another, and openers that nothing fits.
func TestOpeners(t *testing.T) {
	checkRead(t, map[string]string{
		"[":                                  "[",
		"![":                                 "![",
		"]":                                  "]",
		"![]":                                "![]",
		"][":                                 "][",
		"[[":                                 "[[",
		"a]b":                                "a]b",
		"[a]b]":                              "[a]b]",
		"[x]]":                               "<l /x>x</l>]",
		"[[x]]":                              "[<l /x>x</l>]",
		"[[y]]":                              "[[y]]",
		"[a](/b)](/c)":                       "<l /b>a</l>](/c)",
		"[a [b](/c) d](/e)":                  "[a <l /c>b</l> d](/e)",
		"[a [b](/c) d](/e) f](/g)":           "[a <l /c>b</l> d](/e) f](/g)",
		"[a [b [c](/d) e](/f) g](/h)":        "[a [b <l /d>c</l> e](/f) g](/h)",
		"[a [b](/c) [d](/e)":                 "[a <l /c>b</l> <l /e>d</l>",
		"[a [b](/c) [d](/e) f](/g)":          "[a <l /c>b</l> <l /e>d</l> f](/g)",
		"[a [b](/c) ](/d) [e](/f)":           "[a <l /c>b</l> ](/d) <l /f>e</l>",
		"[a [b](/c)](/d)[e](/f)](/g)":        "[a <l /c>b</l>](/d)<l /f>e</l>](/g)",
		"[a [b] c](/d)":                      "<l /d>a [b] c</l>",
		"[a [b c](/d)":                       "[a <l /d>b c</l>",
		"[a c] d](/e)":                       "[a c] d](/e)",
		"[a ]b] c](/d)":                      "[a ]b] c](/d)",
		"[[x] a](/b)":                        "[<l /x>x</l> a](/b)",
		"[[x][a b] c](/d)":                   "[<l /ab|t>x</l> c](/d)",
		"[[x][] c](/d)":                      "[<l /x>x</l> c](/d)",
		"[x [x]]":                            "[x <l /x>x</l>]",
		"[y][[x]]":                           "[y][<l /x>x</l>]",
		"[a ![b](/c) d](/e)":                 "<l /e>a <i /c>b</i> d</l>",
		"[![a](/b)](/c)":                     "<l /c><i /b>a</i></l>",
		"[![x]](/c)":                         "<l /c><i /x>x</i></l>",
		"[![x]][x]":                          "<l /x><i /x>x</i></l>",
		"[a ![b](/c) [d](/e) f](/g)":         "[a <i /c>b</i> <l /e>d</l> f](/g)",
		"![a [b](/c) d](/e)":                 "<i /e>a b d</i>",
		"![a ![b](/c) d](/e)":                "<i /e>a b d</i>",
		"![a [b ![c](/d) e](/f) g](/h)":      "<i /h>a b c e g</i>",
		"[a ![b [c](/d) e](/f) g](/h)":       "[a <i /f>b c e</i> g](/h)",
		"![a [b [c](/d) e](/f) g](/h)":       "<i /h>a [b c e](/f) g</i>",
		"![[x]](/a)":                         "<i /a>x</i>",
		"![[x]":                              "![<l /x>x</l>",
		"![![x]":                             "![<i /x>x</i>",
		"[![x]":                              "[<i /x>x</i>",
		"![a [b](/c)":                        "![a <l /c>b</l>",
		"![a [b](/c) [d](/e)](/f) [g](/h)":   "<i /f>a b d</i> <l /h>g</l>",
		"[a [b](/c) ![d](/e) [f](/g) h](/i)": "[a <l /c>b</l> <i /e>d</i> <l /g>f</l> h](/i)",
		"[a ![b [c](/d) [e] f](/g) [h](/i)":  "[a <i /g>b c [e] f</i> <l /i>h</l>",
		"![*a* `b` <c> <ab:d>\ne  \nf &amp; **g*](/h)": "<i /h>a b  ab:d e f & *g</i>",
		"![a [b *c](/d) e*](/f)":                       "<i /f>a b *c e*</i>",
		// Notes and sections shut nothing, nor does an address.
		"[a <ab:c> d](/e)": "<l /e>a <l ab:c>ab:c</l> d</l>",
		"[a <b@c> d](/e)":  "<l /e>a <l mailto:b@c>b@c</l> d</l>",
		// One that is shut goes, so that the next one ahead is asked.
		"![a [b [c](/d) e] f](/g)":   "<i /g>a [b c e] f</i>",
		"![a [b [c](/d) e][x] f][x]": "<i /x>a [b c e]x f</i>",
		"[a [b](/c) [x] d] e](/f)":   "[a <l /c>b</l> <l /x>x</l> d] e](/f)",
		"[^n [x]]":                   "[^n <l /x>x</l>]",
		"[[x] ^n] [^n]":              "[<l /x>x</l> ^n] <n n>",
		"[[x][#a]]":                  "[[x]<x a>]",
		"[[a](/b)#c]":                "[<l /b>a</l>#c]",
	})
}

// The chapter said another way: what stands in a text is one list, which is searched anew for each bracket.
type thing struct {
	item   emph.Item
	sign   string // of an opener
	shut   bool
	behind int // where in the text an opener ends
}

var (
	atomForm    = regexp.MustCompile(`\x00[0-9]{1,4}\x00`)
	anchorForm  = regexp.MustCompile(`^#[a-z0-9-]+$`)
	bracketForm = regexp.MustCompile(`^\[([^\[\]\x00]*)\]`)
)

func wanted(s string, atoms []Atom, t *define.Table) []api.Inl {
	var all []thing
	put := func(l ...api.Inl) { all = append(all, thing{item: emph.Item{L: l}}) }
	for at := 0; at < len(s); {
		v, next := token.Next(s, at)
		switch x := v.(type) {
		case token.Word:
			put(text(0, string(x)))
		case token.Code:
			put(named(api.Verb, 0, atomForm.ReplaceAllStringFunc(string(x), func(a string) string { return atomOf(a, atoms).Text })))
		case token.Tag:
			put(named(api.Tag, 0, string(x)))
		case token.Auto:
			put(link(0, x.Url, ""), text(1, x.Text))
		case token.Break:
			put(node(map[bool]int{true: api.Hard, false: api.Soft}[x.Hard], 0))
		case token.Atom:
			if x.N < len(atoms) {
				put(within(named(api.Span, 0, atoms[x.N].Label), wanted(atoms[x.N].Text, nil, t))...)
			}
		case token.Run:
			before, after := flank.Around(s, at, next)
			all = append(all, thing{item: emph.Item{Sign: x.Sign, N: x.N, Open: flank.Opens(x.Sign, before, after), Close: flank.Closes(x.Sign, before, after)}})
		case token.Mark:
			if x.Sign != "]" {
				all = append(all, thing{item: emph.Item{L: []api.Inl{text(0, x.Sign)}}, sign: x.Sign, behind: next})
			} else {
				all, next = closed(all, s, at, t)
			}
		}
		at = next
	}
	return emph.Group(items(all)...)
}

func atomOf(bytes string, atoms []Atom) Atom {
	n, _ := strconv.Atoi(strings.Trim(bytes, "\x00"))
	if n >= len(atoms) {
		return Atom{}
	}
	return atoms[n]
}

// within are nodes in another one.
func within(x api.Inl, in []api.Inl) []api.Inl {
	all := []api.Inl{x}
	for _, y := range in {
		y.Depth++
		all = append(all, y)
	}
	return all
}

func items(all []thing) []emph.Item {
	var l []emph.Item
	for _, x := range all {
		l = append(l, x.item)
	}
	return l
}

// closed are things with the bracket at a place behind them, and where what follows begins.
func closed(all []thing, s string, at int, t *define.Table) ([]thing, int) {
	last := len(all) - 1
	for last >= 0 && all[last].sign == "" {
		last--
	}
	if last >= 0 && !all[last].shut {
		x, behind := s[all[last].behind:at], s[at+1:]
		if n, ok := askedFor(x, t); ok && all[last].sign == "[" {
			return append(all[:last], thing{item: emph.Item{L: []api.Inl{n}}}), at + 1
		}
		if to, size, ok := ledBy(x, behind, t); ok {
			return led(all, last, to), at + 1 + size
		}
	}
	if last >= 0 {
		all[last].sign = ""
	}
	return append(all, thing{item: emph.Item{L: []api.Inl{text(0, "]")}}}), at + 1
}

func askedFor(x string, t *define.Table) (api.Inl, bool) {
	if anchorForm.MatchString(x) {
		return named(api.Cross, 0, x[1:]), true
	}
	if !strings.HasPrefix(x, "^") {
		return api.Inl{}, false
	}
	name, _ := define.Name(x[1:])
	_, ok := t.Find(name, true)
	return named(api.Note, 0, name), ok
}

func ledBy(x, behind string, t *define.Table) (api.Def, int, bool) {
	if url, title, size, ok := target.Inside(behind); ok {
		return api.Def{Url: url, Title: title}, size, true
	}
	m := bracketForm.FindStringSubmatch(behind)
	if m == nil {
		d, ok := t.Find(x, false)
		return d, 0, ok
	}
	if d, ok := t.Find(m[1], false); ok {
		return d, len(m[0]), true
	}
	if repair.Fold(m[1]) != "" {
		return api.Def{}, 0, false
	}
	d, ok := t.Find(x, false)
	return d, len(m[0]), ok
}

// led are things with a link, or an image, in the place of an opener and all behind it.
func led(all []thing, opener int, to api.Def) []thing {
	in := emph.Group(items(all[opener+1:])...)
	if all[opener].sign == "![" {
		return append(all[:opener], thing{item: emph.Item{L: []api.Inl{image(0, to.Url, to.Title, emph.Text(in...))}}})
	}
	for i := range all[:opener] {
		all[i].shut = all[i].shut || all[i].sign == "["
	}
	return append(all[:opener], thing{item: emph.Item{L: within(link(0, to.Url, to.Title), in)}})
}

// checkLike holds a text against the chapter said another way.
func checkLike(t *testing.T, s string, table *define.Table) {
	t.Helper()
	if got, want := Parse(s, spans, table), wanted(s, spans, table); !slices.Equal(got, want) {
		t.Fatalf("Parse(%q): %s, not %s", s, told(got), told(want))
	}
}

// checkEvery holds every text of up to most of the pieces, between a head and a tail.
func checkEvery(t *testing.T, most int, head, tail string, pieces ...string) {
	t.Helper()
	table := filled()
	every.Text(pieces, most, func(s string) {
		checkLike(t, head+s+tail, table)
	})
}

// P1501: every short text of awkward pieces.
func TestAll(t *testing.T) {
	checkEvery(t, 4, "", "", "[", "![", "]", "(/u)", "(", ")", "x", "^n", "#b", "*", "_", " ", "\n", "`", "\\", "\x000\x00", "<", ">")
	checkEvery(t, 7, "", "", "[", "![", "](/u)", "]", "*")
	checkEvery(t, 6, "", "", "[", "]", "x", "y", "[]", " ")
	checkEvery(t, 5, "", "", "[", "![", "]", "^n", "#b", "[x]", "(/u)", "\n")
	checkEvery(t, 5, "", "](/u)", "[", "![", "]", "*a*", "**", "[x]", "\x001\x00")
	checkEvery(t, 6, "[a", "", "](", "(", ")", "\\", "<", ">", " ")
	checkEvery(t, 4, "[x](", "", "](", "(", ")", "'", "\"", " ", "\t", "\x7f", "\n", "\x00", "é")
	checkEvery(t, 5, "`", "`", "\x00", "0", "1", "9", " ", "\x002\x00", "a")
	checkEvery(t, 5, "[x]", "", "[", "]", "y", "x", "\x00", " ", "\u00a0")
}

// P1501: long texts of awkward pieces.
func TestMany(t *testing.T) {
	pieces := []string{"[", "![", "]", "](/u)", "](", ")", "(", "][x]", "][]", "^n", "#b", "[x]", "*", "**", "_", "`", "<", ">", "<b>", "<ab:c>", "\\", "&amp;", "\n", "  \n", " ", "a", "é", "\xff", "\x00", "\x000\x00", "\x001\x00", "'", "\""}
	random := rand.New(rand.NewSource(15))
	table := filled()
	for range 10000 {
		some := pieces[:1+random.Intn(len(pieces))]
		var s strings.Builder
		for range random.Intn(80) {
			s.WriteString(some[random.Intn(len(some))])
		}
		checkLike(t, s.String(), table)
	}
}

// P1501, P1502: without atoms and without a table.
func TestNone(t *testing.T) {
	for s, want := range map[string]string{
		"":                       "",
		"*a* [b](/c) <d>":        "<e>a</e> <l /c>b</l> <t><d></t>",
		"[x][] [x] ![x] [y][x]":  "[x][] [x] ![x] [y][x]",
		"[x][](/a)":              "[x]<l /a></l>",
		"[^n] [#a]":              "[^n] <x a>",
		"a\x000\x00b":            "ab",
		"`a\x000\x00b\x00`":      "<c>ab\x00</c>",
		"[a\x000\x00](/b)":       "<l /b>a</l>",
		"![\x000\x00\n](/b 't')": "<i /b|t> </i>",
	} {
		for _, l := range [][]api.Inl{Raw(s), Parse(s, nil, nil), Parse(s, []Atom{}, &define.Table{})} {
			if got := written(l); got != want {
				t.Errorf("Raw(%q): %q, not %q", s, got, want)
			}
		}
	}
	// Spans alone, and names alone.
	if got := written(Parse("\x000\x00 \x001\x00 [x]", spans, nil)); got != "<p low><e>s</e></p> <p hi>[x] </p> [x]" {
		t.Errorf("without a table: %q", got)
	}
	if got := written(Parse("\x000\x00 [x] [^n]", nil, filled())); got != " <l /x>x</l> <n n>" {
		t.Errorf("without atoms: %q", got)
	}
	every.Text([]string{"[", "![", "]", "(/u)", "x", "^n", "#b", "*", "`", "\x000\x00", " "}, 5, func(s string) {
		if got, want := Raw(s), wanted(s, nil, nil); !slices.Equal(got, want) {
			t.Fatalf("Raw(%q): %s, not %s", s, told(got), told(want))
		}
	})
}

// P1501: what was handed in stays, and no answer hangs on another one.
func TestOwn(t *testing.T) {
	const s = "*a* [x] `\x000\x00` \x001\x00 ![b](/c) [^n]"
	atoms, table := slices.Clone(spans), filled()
	defs := table.All()
	first := Parse(s, atoms, table)
	want := slices.Clone(first)
	clear(first)
	if again := Parse(s, atoms, table); !slices.Equal(again, want) {
		t.Errorf("Parse once more: %s, not %s", told(again), told(want))
	}
	if !slices.Equal(atoms, spans) || !slices.Equal(table.All(), defs) {
		t.Errorf("Parse turned what was handed in: %q, %+v", atoms, table.All())
	}
	clear(atoms)
	table.Add(api.Def{Name: "y", Url: "/y"})
	if !slices.Equal(Parse(s, spans, table), want) || written(Parse("[y]", nil, table)) != "<l /y>y</l>" {
		t.Errorf("Parse hangs on what was handed in before")
	}
}

// P1501: whatever bytes a text has, all nodes are of kinds, as deep as they may be, and what none needs is nothing.
func TestForms(t *testing.T) {
	const signs = "[]!()<>`*_\\&#;^ax0 \n\t\x00\xff\xc3\xa9"
	random := rand.New(rand.NewSource(1501))
	table := filled()
	for range 20000 {
		b := make([]byte, random.Intn(60))
		for i := range b {
			b[i] = signs[random.Intn(len(signs))]
		}
		s := string(b)
		checkLike(t, s, table)
		deepest := 0
		for _, x := range Parse(s, spans, table) {
			if !formed(x) || x.Depth < 0 || x.Depth > deepest {
				t.Fatalf("Parse(%q): %+v", s, x)
			}
			deepest = x.Depth
			if slices.Contains([]int{api.Emph, api.Strong, api.Link, api.Span}, x.Kind) {
				deepest++
			}
		}
	}
}

// formed says whether a node has nothing but what its kind has.
func formed(x api.Inl) bool {
	switch x.Kind {
	case api.Words, api.Tag, api.Note, api.Cross:
		return x.Text != "" && x.Url == "" && x.Title == ""
	case api.Verb, api.Span:
		return x.Url == "" && x.Title == ""
	case api.Emph, api.Strong, api.Soft, api.Hard:
		return x.Text == "" && x.Url == "" && x.Title == ""
	case api.Link:
		return x.Text == ""
	}
	return x.Kind == api.Image
}

// P1501: long texts, in time that goes by their length.
func TestLong(t *testing.T) {
	const n, deepest = 1 << 15, 1 << 16
	many := func(s string) string { return strings.Repeat(s, n) }
	for s, want := range map[string]string{
		many("["):                       many("["),
		many("]"):                       many("]"),
		many("!["):                      many("!["),
		many("[") + many("]"):           many("[") + many("]"),
		many("![") + many("]"):          many("![") + many("]"),
		many("[a]"):                     many("[a]"),
		many("[x]"):                     strings.Repeat("<l /x>x</l>", n/2),
		many("[x][]"):                   many("<l /x>x</l>"),
		many("[a](b"):                   many("[a](b"),
		many("[a](b") + ")":             strings.Repeat("[a](b", n-1) + "<l b>a</l>",
		many("[a](b") + many(")"):       "<l " + strings.Repeat("b[a](", n-1) + "b" + strings.Repeat(")", n-1) + ">a</l>",
		many("[a](b") + " 't')":         strings.Repeat("[a](b", n-1) + "<l b|t>a</l>",
		many("[a](\\(b"):                many("[a]((b"),
		many("[a](<b"):                  many("[a](<b"),
		many("[ (]("):                   many("[ (]("),
		many("[a](b 't"):                strings.Repeat("[a](b 't", n),
		many("![[]()"):                  many("![<l ></l>"),
		many("[") + many("[a](b)"):      many("[") + many("<l b>a</l>"),
		many("[a") + many("](b)"):       strings.Repeat("[a", n-1) + "<l b>a</l>" + strings.Repeat("](b)", n-1),
		many("![") + "a" + many("](b)"): "<i b>a</i>",
		many("[x]["):                    many("<l /x>x</l>["),
		many("[x][y"):                   many("<l /x>x</l>[y"),
		many("[^n]"):                    many("<n n>"),
		many("[#a"):                     many("[#a"),
		many("[^n "):                    many("[^n "),
		many("*[a_"):                    strings.Repeat("<e>[a_</e>[a_", n/2),
		many("*a [b](c*) "):             many("*a <l c*>b</l> "),
		many("`\x000\x00` "):            many("<c>*s*</c> "),
		"`" + many("\x000\x00") + "`":   "<c>" + many("*s*") + "</c>",
		"`" + many("\x00") + "`":        "<c>" + many("\x00") + "</c>",
		many("\x000\x00"):               many("<p low><e>s</e></p>"),
		"[" + many("a ") + "](b)":       "<l b>" + many("a ") + "</l>",
		"![" + many("*a* ") + "](b)":    "<i b>" + many("a ") + "</i>",
		"[#" + many("a") + "]":          "<x " + many("a") + ">",
		many("a\n"):                     many("a<br>"),
	} {
		if got := written(Parse(s, spans, filled())); got != want {
			t.Errorf("Parse(%.20q, long): %.200q, not %.200q", s, got, want)
		}
	}
	// Nodes as deep in one another as they may be, in a link.
	l := Parse("["+strings.Repeat("*a ", deepest-1)+"a"+strings.Repeat("*", deepest-1)+"](b)", nil, nil)
	if len(l) != 2*deepest-1 || l[0] != link(0, "b", "") || l[len(l)-1] != text(deepest, "a a") {
		t.Errorf("deep: %d nodes", len(l))
	}
}

// P1501: texts stay UTF-8 as they are cut.
func TestRunes(t *testing.T) {
	table := filled()
	every.Text([]string{"é", "ü", "€", "𝄞", "[", "]", "(é)", "*", "`", "#", "^", "_"}, 4, func(s string) {
		for _, x := range Parse(s, spans, table) {
			if !utf8.ValidString(x.Text) || !utf8.ValidString(x.Url) {
				t.Fatalf("Parse(%q): %+v", s, x)
			}
		}
		checkLike(t, s, table)
	})
}
