package block

import (
	"math"
	"math/rand/v2"
	"slices"
	"strings"
	"testing"

	"bowdler/api"
	"bowdler/every"
	"bowdler/line"
	"bowdler/mark"
)

func paraAt(depth int, text string) api.Block {
	return api.Block{Kind: api.Para, Depth: depth, Text: text}
}

func headAt(depth, level int, text string) api.Block {
	return api.Block{Kind: api.Head, Depth: depth, N: level, Text: text}
}

func codeAt(depth int, info, text string) api.Block {
	return api.Block{Kind: api.Code, Depth: depth, Info: info, Text: text}
}

func rawAt(depth int, text string) api.Block {
	return api.Block{Kind: api.Raw, Depth: depth, Text: text}
}

func breakAt(depth int) api.Block { return api.Block{Kind: api.Break, Depth: depth} }

func quoteAt(depth int) api.Block { return api.Block{Kind: api.Quote, Depth: depth} }

func itemAt(depth int) api.Block { return api.Block{Kind: api.Item, Depth: depth} }

// tightAt and looseAt are Lists.
func tightAt(depth, number int, sign string) api.Block {
	return api.Block{Kind: api.List, Depth: depth, N: number, Info: sign, Tight: true}
}

func looseAt(depth, number int, sign string) api.Block {
	return api.Block{Kind: api.List, Depth: depth, N: number, Info: sign}
}

// lines are texts with a | between.
func lines(s string) []string { return strings.Split(s, "|") }

// checkLines holds what Parse answers of lines against blocks, and that these are Right.
func checkLines(t *testing.T, l []string, want ...api.Block) {
	t.Helper()
	kept := slices.Clone(l)
	got := Parse(l...)
	if !slices.Equal(got, want) {
		t.Errorf("Parse(%.200q): %+v, not %+v", l, got, want)
	}
	if !Right(got...) {
		t.Errorf("Parse(%.200q) is not Right: %+v", l, got)
	}
	if !slices.Equal(l, kept) {
		t.Errorf("Parse(%.200q) wrote into it: %.200q", kept, l)
	}
}

func checkParse(t *testing.T, s string, want ...api.Block) {
	t.Helper()
	checkLines(t, lines(s), want...)
}

// P901: Blank lines are nothing.
func TestBlank(t *testing.T) {
	checkLines(t, nil)
	checkLines(t, []string{})
	for _, s := range []string{"", " ", "\t", "      ", "||", " |\t|     ", "\t\t|| \t "} {
		checkParse(t, s)
		checkParse(t, s+"|a|"+s, paraAt(0, "a"))
		checkParse(t, "a|"+s+"|b", paraAt(0, "a"), paraAt(0, "b"))
	}
	// Of other bytes none is a blank.
	for _, s := range []string{"\u00a0", "\r", "\n", "\v", "\x00", "\xff", "\u2003"} {
		checkParse(t, s, paraAt(0, s))
	}
}

// P901: code that begins by its blanks.
func TestIndented(t *testing.T) {
	for s, text := range map[string]string{
		"    a":              "a\n",
		"     a ":            " a \n",
		"\ta":                "a\n",
		" \ta":               "a\n",
		"   \t a\t":          " a\t\n",
		"\t\ta":              "    a\n",
		"  \t\ta":            "    a\n",
		"    a\tb":           "a\tb\n",
		"    a|    b":        "a\nb\n",
		"    a|      b|\tc":  "a\n  b\nc\n",
		"    a||    b":       "a\n\nb\n",
		"    a|     |    b":  "a\n \nb\n",
		"    a|\t\t|    b":   "a\n    \nb\n",
		"    a| |  |    b":   "a\n\n\nb\n",
		"    a||":            "a\n",
		"    a|     |\t\t":   "a\n",
		"|      |    a":      "a\n",
		"    # a|    ---":    "# a\n---\n",
		"    > a|    - b":    "> a\n- b\n",
		"    ```|    a":      "```\na\n",
		"    <a>":            "<a>\n",
		"    \xff\u00e9":     "\xff\u00e9\n",
		"    \u00a0":         "\u00a0\n",
		"    a\nb":           "a\nb\n",
		"    a|    \u00a0||": "a\n\u00a0\n",
	} {
		checkParse(t, s, codeAt(0, "", text))
	}
	// Another line ends it, and Blank ones ahead of that are nothing.
	checkParse(t, "    a|b", codeAt(0, "", "a\n"), paraAt(0, "b"))
	checkParse(t, "    a||     b|  |c", codeAt(0, "", "a\n\n b\n"), paraAt(0, "c"))
	checkParse(t, "    a|   b|    c", codeAt(0, "", "a\n"), paraAt(0, "b\nc"))
	checkParse(t, "    a|# b|    c", codeAt(0, "", "a\n"), headAt(0, 1, "b"), codeAt(0, "", "c\n"))
	checkParse(t, "    a|---", codeAt(0, "", "a\n"), breakAt(0))
	checkParse(t, "    a||===", codeAt(0, "", "a\n"), paraAt(0, "==="))
	// Behind a Para there must be a Blank line.
	checkParse(t, "a|    b", paraAt(0, "a\nb"))
	checkParse(t, "a||    b", paraAt(0, "a"), codeAt(0, "", "b\n"))
}

// P901: code between fences.
func TestFenced(t *testing.T) {
	for s, want := range map[string]api.Block{
		"~~~":                   codeAt(0, "", ""),
		"~~~|~~~":               codeAt(0, "", ""),
		"~~~||~~~":              codeAt(0, "", "\n"),
		"~~~|a|~~~":             codeAt(0, "", "a\n"),
		"```|a|```":             codeAt(0, "", "a\n"),
		"~~~|a":                 codeAt(0, "", "a\n"),
		"~~~|a||":               codeAt(0, "", "a\n\n\n"),
		"~~~| |\t":              codeAt(0, "", " \n    \n"),
		"``` go  x \t|a|```":    codeAt(0, "go  x", "a\n"),
		"~~~ ```|a|~~~":         codeAt(0, "```", "a\n"),
		"~~~ \\* &amp; \xff":    codeAt(0, "\\* &amp; \xff", ""),
		"~~~|# a|> b|- c|<d":    codeAt(0, "", "# a\n> b\n- c\n<d\n"),
		"~~~|a|---|===|b":       codeAt(0, "", "a\n---\n===\nb\n"),
		"~~~|    a|\tb|~~~":     codeAt(0, "", "    a\n    b\n"),
		"~~~|\u00e9\xff\n|a\tb": codeAt(0, "", "\u00e9\xff\n\na\tb\n"),
		// What does not close it: another sign, fewer signs, too many blanks, something behind.
		"~~~|```|~~~":           codeAt(0, "", "```\n"),
		"```|~~~|```":           codeAt(0, "", "~~~\n"),
		"~~~|~~|~|~~~":          codeAt(0, "", "~~\n~\n"),
		"~~~~~|~~~~|~~~|~~~~~":  codeAt(0, "", "~~~~\n~~~\n"),
		"~~~|    ~~~|\t~~~|~~~": codeAt(0, "", "    ~~~\n    ~~~\n"),
		"~~~|~~~ a|~~~":         codeAt(0, "", "~~~ a\n"),
		"~~~|> ~~~|- ~~~|~~~":   codeAt(0, "", "> ~~~\n- ~~~\n"),
		"~~~|\u00a0~~~|~~~":     codeAt(0, "", "\u00a0~~~\n"),
		// What does: as many or more, blanks ahead and behind.
		"~~~|a|~~~~~~":         codeAt(0, "", "a\n"),
		"````|a|````` \t":      codeAt(0, "", "a\n"),
		"~~~|a|   ~~~":         codeAt(0, "", "a\n"),
		"  ~~~|   a| b|~~~":    codeAt(0, "", " a\nb\n"),
		"   ~~~|\ta|     b||c": codeAt(0, "", " a\n  b\n\nc\n"),
		" ~~~|  |~~~":          codeAt(0, "", " \n"),
		"  ~~~|   ~~~":         codeAt(0, "", ""),
	} {
		checkParse(t, s, want)
	}
	checkParse(t, "~~~|a|~~~|~~~|b|~~~", codeAt(0, "", "a\n"), codeAt(0, "", "b\n"))
	checkParse(t, "~~~|a|~~~~|b", codeAt(0, "", "a\n"), paraAt(0, "b"))
	checkParse(t, "~~~|a|~~~|~~~", codeAt(0, "", "a\n"), codeAt(0, "", ""))
	checkParse(t, "a|~~~ x|b", paraAt(0, "a"), codeAt(0, "x", "b\n"))
	// What is no fence is text.
	checkParse(t, "~~|a", paraAt(0, "~~\na"))
	checkParse(t, "``` a`|b", paraAt(0, "``` a`\nb"))
	checkParse(t, "    ~~~|a", codeAt(0, "", "~~~\n"), paraAt(0, "a"))
}

// P901: headings and breaks of one line.
func TestSigns(t *testing.T) {
	checkParse(t, "# a", headAt(0, 1, "a"))
	checkParse(t, "   ###### \t*a* ## ", headAt(0, 6, "*a*"))
	checkParse(t, "#", headAt(0, 1, ""))
	checkParse(t, "## a|### b|c|# d", headAt(0, 2, "a"), headAt(0, 3, "b"), paraAt(0, "c"), headAt(0, 1, "d"))
	checkParse(t, "# a|===", headAt(0, 1, "a"), paraAt(0, "==="))
	checkParse(t, "# a|---", headAt(0, 1, "a"), breakAt(0))
	checkParse(t, "# a|    b", headAt(0, 1, "a"), codeAt(0, "", "b\n"))
	checkParse(t, "#a|####### b|\u00a0# c", paraAt(0, "#a\n####### b\n\u00a0# c"))
	checkParse(t, "# a {=x}", headAt(0, 1, "a {=x}"))
	checkParse(t, "---", breakAt(0))
	checkParse(t, "***|_ _ _|- - -\t|   ------", breakAt(0), breakAt(0), breakAt(0), breakAt(0))
	checkParse(t, "---|a|***|b", breakAt(0), paraAt(0, "a"), breakAt(0), paraAt(0, "b"))
	checkParse(t, "--|**|__|+++", paraAt(0, "--\n**\n__\n+++"))
	checkParse(t, "---|    a", breakAt(0), codeAt(0, "", "a\n"))
}

// P901: raw HTML.
func TestRaw(t *testing.T) {
	for s, text := range map[string]string{
		"<b":                      "<b\n",
		"   <b> \t":               "   <b> \t\n",
		"<b|*x*":                  "<b\n*x*\n",
		"</b>|    a|\tc":          "</b>\n    a\n\tc\n",
		"<!--|# A|> b|- c|---":    "<!--\n# A\n> b\n- c\n---\n",
		"<?a|~~~|===":             "<?a\n~~~\n===\n",
		"<a|<b|<c||":              "<a\n<b\n<c\n",
		"<a|\u00a0|\xff|\r|\nb||": "<a\n\u00a0\n\xff\n\r\n\nb\n",
	} {
		checkParse(t, s, rawAt(0, text))
	}
	checkParse(t, "<b|*x*||y", rawAt(0, "<b\n*x*\n"), paraAt(0, "y"))
	checkParse(t, "<b| \t|<c||    d", rawAt(0, "<b\n"), rawAt(0, "<c\n"), codeAt(0, "", "d\n"))
	// It does not end a Para.
	checkParse(t, "a|<b|c", paraAt(0, "a\n<b\nc"))
	checkParse(t, "< b|<1", paraAt(0, "< b\n<1"))
	checkParse(t, "    <b|c", codeAt(0, "", "<b\n"), paraAt(0, "c"))
}

// P901: paragraphs, and what ends them.
func TestPara(t *testing.T) {
	for s, text := range map[string]string{
		"a":                      "a",
		"a|b":                    "a\nb",
		"a\t \t":                 "a",
		"   a":                   "a",
		"  a  | \tb\t":           "a  \nb",
		"a\\|b \t |  c  \t":      "a\\\nb \t \nc",
		"a|    b|\t\tc":          "a\nb\nc",
		"\u00a0a\u00a0|\u2003b":  "\u00a0a\u00a0\n\u2003b",
		"\xff|\xc3 |\xc3\xa9\r ": "\xff\n\xc3 \n\xc3\xa9\r",
		"a|\ufffd ":              "a\n\ufffd",
		"a\n|\n|b\n":             "a\n\n\n\nb\n",
		"a|    # b|    > c":      "a\n# b\n> c",
		"a|    ---|    ~~~":      "a\n---\n~~~",
		"a|#b|~~|``` `|<c|*d*":   "a\n#b\n~~\n``` `\n<c\n*d*",
		"a|=-|= =|-a":            "a\n=-\n= =\n-a",
		"===":                    "===",
		"a|&gt; b|\\# c":         "a\n&gt; b\n\\# c",
		"[a]: /b|[^c]: d":        "[a]: /b\n[^c]: d",
		":::{x}|{|y: b|}":        ":::{x}\n{\ny: b\n}",
		"a|*|+|1.|1)|-\tb":       "a\n*\n+\n1.\n1)\n-\tb",
		"a|*  |+ \t|1. |1)    ":  "a\n*  \n+ \t\n1. \n1)",
		"a|2. b|0. c|10) d|3)":   "a\n2. b\n0. c\n10) d\n3)",
		"a|    - b|\t1. c":       "a\n- b\n1. c",
	} {
		checkParse(t, s, paraAt(0, text))
	}
	checkParse(t, "a||b| |c", paraAt(0, "a"), paraAt(0, "b"), paraAt(0, "c"))
	for s, b := range map[string]api.Block{
		"# b": headAt(0, 1, "b"), "   ##": headAt(0, 2, ""), "***": breakAt(0), "- - -": breakAt(0), "_ _ _ ": breakAt(0),
		"~~~": codeAt(0, "", ""), "  ``` x": codeAt(0, "x", ""), ">": quoteAt(0), "|c": paraAt(0, "c"),
	} {
		checkParse(t, "a |"+s, paraAt(0, "a"), b)
		checkParse(t, "a|b\t|"+s, paraAt(0, "a\nb"), b)
	}
}

// P901: an Item ends a Para, if something is behind its sign, and its number is 1, or it has none.
func TestItemBehindPara(t *testing.T) {
	for s, list := range map[string]api.Block{
		"- b": tightAt(0, -1, "-"), "+ b": tightAt(0, -1, "+"), "   * b": tightAt(0, -1, "*"), "1. b": tightAt(0, 1, "."), "1) b": tightAt(0, 1, ")"), "001. b": tightAt(0, 1, "."), "-    b": tightAt(0, -1, "-"),
	} {
		checkParse(t, "a|"+s, paraAt(0, "a"), list, itemAt(1), paraAt(2, "b"))
	}
	checkParse(t, "a|-     b", paraAt(0, "a"), tightAt(0, -1, "-"), itemAt(1), codeAt(2, "", "b\n"))
	// Behind a Blank line, and at the beginning, each Item is one.
	for _, ahead := range []string{"", "a||"} {
		want := func(b ...api.Block) []api.Block {
			if ahead != "" {
				return append([]api.Block{paraAt(0, "a")}, b...)
			}
			return b
		}
		checkParse(t, ahead+"2. b", want(tightAt(0, 2, "."), itemAt(1), paraAt(2, "b"))...)
		checkParse(t, ahead+"-", want(tightAt(0, -1, "-"), itemAt(1))...)
		checkParse(t, ahead+"0)  ", want(tightAt(0, 0, ")"), itemAt(1))...)
	}
}

// P901: a row under a Para makes a heading of it.
func TestUnder(t *testing.T) {
	for s, b := range map[string]api.Block{
		"a|===":              headAt(0, 1, "a"),
		"a|---":              headAt(0, 2, "a"),
		"a|=":                headAt(0, 1, "a"),
		"a|-":                headAt(0, 2, "a"),
		"a|- ":               headAt(0, 2, "a"),
		"  a \t|   ---- \t":  headAt(0, 2, "a"),
		"a|b|===":            headAt(0, 1, "a\nb"),
		"a  |\tb|  c |=":     headAt(0, 1, "a  \nb\nc"),
		"===|===":            headAt(0, 1, "==="),
		"a|\xff|--":          headAt(0, 2, "a\n\xff"),
		"a|    b|===":        headAt(0, 1, "a\nb"),
		"[a]: /b|===":        headAt(0, 1, "[a]: /b"),
		"a|<b|-":             headAt(0, 2, "a\n<b"),
		"a|2. b|*|===":       headAt(0, 1, "a\n2. b\n*"),
		"--|---":             headAt(0, 2, "--"),
		"=-|=":               headAt(0, 1, "=-"),
		"a|    ===|\t---|==": headAt(0, 1, "a\n===\n---"),
	} {
		checkParse(t, s, b)
		checkParse(t, s+"|c", b, paraAt(0, "c"))
		checkParse(t, s+"|===", b, paraAt(0, "==="))
	}
	checkParse(t, "a|===|---", headAt(0, 1, "a"), breakAt(0))
	checkParse(t, "a|---|---", headAt(0, 2, "a"), breakAt(0))
	checkParse(t, "a|***", paraAt(0, "a"), breakAt(0))
	checkParse(t, "a|- - -", paraAt(0, "a"), breakAt(0))
	// Only a Para has one.
	checkParse(t, "a||---", paraAt(0, "a"), breakAt(0))
	checkParse(t, "a||===", paraAt(0, "a"), paraAt(0, "==="))
	checkParse(t, "---|===", breakAt(0), paraAt(0, "==="))
	checkParse(t, "> a|===", quoteAt(0), paraAt(1, "a"), paraAt(0, "==="))
	checkParse(t, "> a|> ===", quoteAt(0), headAt(1, 1, "a"))
	checkParse(t, "- a|---", tightAt(0, -1, "-"), itemAt(1), paraAt(2, "a"), breakAt(0))
	checkParse(t, "- a|  ---", tightAt(0, -1, "-"), itemAt(1), headAt(2, 2, "a"))
}

// P901: quotes.
func TestQuote(t *testing.T) {
	checkParse(t, ">", quoteAt(0))
	checkParse(t, ">|> |>  ", quoteAt(0))
	checkParse(t, "> a", quoteAt(0), paraAt(1, "a"))
	checkParse(t, ">a|   > b|>  c", quoteAt(0), paraAt(1, "a\nb\nc"))
	checkParse(t, "> a|> b|c", quoteAt(0), paraAt(1, "a\nb"), paraAt(0, "c"))
	checkParse(t, "> a||> b", quoteAt(0), paraAt(1, "a"), quoteAt(0), paraAt(1, "b"))
	checkParse(t, "> a|>|> b", quoteAt(0), paraAt(1, "a"), paraAt(1, "b"))
	checkParse(t, "> a|    > b", quoteAt(0), paraAt(1, "a"), codeAt(0, "", "> b\n"))
	checkParse(t, "    > b", codeAt(0, "", "> b\n"))
	checkParse(t, ">     a|>\tb", quoteAt(0), codeAt(1, "", "a\nb\n"))
	checkParse(t, "> # a|> ---|># b", quoteAt(0), headAt(1, 1, "a"), breakAt(1), headAt(1, 1, "b"))
	checkParse(t, "> ~~~|> a|b", quoteAt(0), codeAt(1, "", "a\n"), paraAt(0, "b"))
	checkParse(t, "> ~~~|~~~", quoteAt(0), codeAt(1, "", ""), codeAt(0, "", ""))
	checkParse(t, "> <b|> c||> d", quoteAt(0), rawAt(1, "<b\nc\n"), quoteAt(0), paraAt(1, "d"))
	checkParse(t, "> > a|>", quoteAt(0), quoteAt(1), paraAt(2, "a"))
	checkParse(t, ">> a|> b|>>> c", quoteAt(0), quoteAt(1), paraAt(2, "a"), paraAt(1, "b"), quoteAt(1), quoteAt(2), paraAt(3, "c"))
	checkParse(t, "> - a|> - b|- c", quoteAt(0), tightAt(1, -1, "-"), itemAt(2), paraAt(3, "a"), itemAt(2), paraAt(3, "b"), tightAt(0, -1, "-"), itemAt(1), paraAt(2, "c"))
	checkParse(t, "a|> b", paraAt(0, "a"), quoteAt(0), paraAt(1, "b"))
	checkParse(t, "> a\n> b", quoteAt(0), paraAt(1, "a\n> b"))
}

// P902: which lines are an Item's.
func TestItem(t *testing.T) {
	checkParse(t, "- a", tightAt(0, -1, "-"), itemAt(1), paraAt(2, "a"))
	checkParse(t, "- a|  b", tightAt(0, -1, "-"), itemAt(1), paraAt(2, "a\nb"))
	checkParse(t, "- a|\tb", tightAt(0, -1, "-"), itemAt(1), paraAt(2, "a\nb"))
	checkParse(t, "- a|b", tightAt(0, -1, "-"), itemAt(1), paraAt(2, "a"), paraAt(0, "b"))
	checkParse(t, "- a| b", tightAt(0, -1, "-"), itemAt(1), paraAt(2, "a"), paraAt(0, "b"))
	checkParse(t, "-   a|    b|   c", tightAt(0, -1, "-"), itemAt(1), paraAt(2, "a\nb"), paraAt(0, "c"))
	checkParse(t, "  12) a|      b", tightAt(0, 12, ")"), itemAt(1), paraAt(2, "a\nb"))
	checkParse(t, "  12) a|     b", tightAt(0, 12, ")"), itemAt(1), paraAt(2, "a"), codeAt(0, "", " b\n"))
	checkParse(t, "- a|# b", tightAt(0, -1, "-"), itemAt(1), paraAt(2, "a"), headAt(0, 1, "b"))
	checkParse(t, "- a|  # b|  > c", tightAt(0, -1, "-"), itemAt(1), paraAt(2, "a"), headAt(2, 1, "b"), quoteAt(2), paraAt(3, "c"))
	checkParse(t, "- # a|-     b|- <c|- ***", tightAt(0, -1, "-"), itemAt(1), headAt(2, 1, "a"), itemAt(1), codeAt(2, "", "b\n"), itemAt(1), rawAt(2, "<c\n"), itemAt(1), breakAt(2))
	// Nothing, or blanks alone, behind the sign.
	checkParse(t, "-", tightAt(0, -1, "-"), itemAt(1))
	checkParse(t, "-|  a|  b", tightAt(0, -1, "-"), itemAt(1), paraAt(2, "a\nb"))
	checkParse(t, "-| a", tightAt(0, -1, "-"), itemAt(1), paraAt(0, "a"))
	checkParse(t, "-      |  a|      b", tightAt(0, -1, "-"), itemAt(1), paraAt(2, "a\nb"))
	checkParse(t, "1.|   a|  b", tightAt(0, 1, "."), itemAt(1), paraAt(2, "a"), paraAt(0, "b"))
	checkParse(t, "-||  a", looseAt(0, -1, "-"), itemAt(1), paraAt(2, "a"))
	// Blank lines: within it they are its own, at its end they are not.
	checkParse(t, "- a||  b", looseAt(0, -1, "-"), itemAt(1), paraAt(2, "a"), paraAt(2, "b"))
	checkParse(t, "- a|||b", tightAt(0, -1, "-"), itemAt(1), paraAt(2, "a"), paraAt(0, "b"))
	checkParse(t, "- ~~~|  a||    |", tightAt(0, -1, "-"), itemAt(1), codeAt(2, "", "a\n"))
	checkParse(t, "- ~~~|     |  ~~~", looseAt(0, -1, "-"), itemAt(1), codeAt(2, "", "   \n"))
	checkParse(t, "- ~~~| |\t\t|  ~~~", looseAt(0, -1, "-"), itemAt(1), codeAt(2, "", "\n      \n"))
	checkParse(t, "- ~~~|   a||  ~~~|  b", looseAt(0, -1, "-"), itemAt(1), codeAt(2, "", " a\n\n"), paraAt(2, "b"))
	checkParse(t, "- a||      b|||      c||d", looseAt(0, -1, "-"), itemAt(1), paraAt(2, "a"), codeAt(2, "", "b\n\n\nc\n"), paraAt(0, "d"))
	// What only looks like one.
	checkParse(t, "-\ta", paraAt(0, "-\ta"))
	checkParse(t, "    - a", codeAt(0, "", "- a\n"))
	checkParse(t, "- - -", breakAt(0))
	checkParse(t, "1234567890. a", paraAt(0, "1234567890. a"))
	checkParse(t, "- a\n- b", tightAt(0, -1, "-"), itemAt(1), paraAt(2, "a\n- b"))
}

// P902: which Items are one List's; its number and sign.
func TestList(t *testing.T) {
	three := func(list api.Block) []api.Block {
		return []api.Block{list, itemAt(1), paraAt(2, "a"), itemAt(1), paraAt(2, "b"), itemAt(1), paraAt(2, "c")}
	}
	checkParse(t, "- a|- b|- c", three(tightAt(0, -1, "-"))...)
	checkParse(t, "+ a| + b|+    c", three(tightAt(0, -1, "+"))...)
	checkParse(t, "* a|* b||* c", three(looseAt(0, -1, "*"))...)
	checkParse(t, "- a| - b| - c", three(tightAt(0, -1, "-"))...)
	checkParse(t, "1. a|1. b|1. c", three(tightAt(0, 1, "."))...)
	checkParse(t, "7. a|3. b|000. c", three(tightAt(0, 7, "."))...)
	checkParse(t, "0) a|999999999) b|1) c", three(tightAt(0, 0, ")"))...)
	checkParse(t, "999999999. a||||2. b|| 2. c", three(looseAt(0, 999999999, "."))...)
	// Another sign begins another List.
	two := func(first, second api.Block) []api.Block {
		return []api.Block{first, itemAt(1), paraAt(2, "a"), second, itemAt(1), paraAt(2, "b")}
	}
	checkParse(t, "- a|+ b", two(tightAt(0, -1, "-"), tightAt(0, -1, "+"))...)
	checkParse(t, "* a||- b", two(tightAt(0, -1, "*"), tightAt(0, -1, "-"))...)
	checkParse(t, "3. a|3) b", two(tightAt(0, 3, "."), tightAt(0, 3, ")"))...)
	checkParse(t, "3) a|||4. b", two(tightAt(0, 3, ")"), tightAt(0, 4, "."))...)
	checkParse(t, "1. a|- b", two(tightAt(0, 1, "."), tightAt(0, -1, "-"))...)
	// What is no Item ends it, also a Rule of its sign.
	checkParse(t, "- a|***|- b", tightAt(0, -1, "-"), itemAt(1), paraAt(2, "a"), breakAt(0), tightAt(0, -1, "-"), itemAt(1), paraAt(2, "b"))
	checkParse(t, "* a|* * *|* b", tightAt(0, -1, "*"), itemAt(1), paraAt(2, "a"), breakAt(0), tightAt(0, -1, "*"), itemAt(1), paraAt(2, "b"))
	checkParse(t, "- a||b||- c", tightAt(0, -1, "-"), itemAt(1), paraAt(2, "a"), paraAt(0, "b"), tightAt(0, -1, "-"), itemAt(1), paraAt(2, "c"))
	checkParse(t, "3. a|b|4. c", tightAt(0, 3, "."), itemAt(1), paraAt(2, "a"), paraAt(0, "b\n4. c"))
	// Items without anything go on in it.
	checkParse(t, "-|-|- |-  a", tightAt(0, -1, "-"), itemAt(1), itemAt(1), itemAt(1), itemAt(1), paraAt(2, "a"))
	checkParse(t, "1.||2.", looseAt(0, 1, "."), itemAt(1), itemAt(1))
	// Lists in Items.
	checkParse(t, "- a|  - b|    - c|  - d|- e", tightAt(0, -1, "-"), itemAt(1), paraAt(2, "a"), tightAt(2, -1, "-"), itemAt(3), paraAt(4, "b"), tightAt(4, -1, "-"), itemAt(5), paraAt(6, "c"), itemAt(3), paraAt(4, "d"), itemAt(1), paraAt(2, "e"))
	checkParse(t, "- 2. a|  3. b|- + c", tightAt(0, -1, "-"), itemAt(1), tightAt(2, 2, "."), itemAt(3), paraAt(4, "a"), itemAt(3), paraAt(4, "b"), itemAt(1), tightAt(2, -1, "+"), itemAt(3), paraAt(4, "c"))
	checkParse(t, "- > a|  > b|  c", tightAt(0, -1, "-"), itemAt(1), quoteAt(2), paraAt(3, "a\nb"), paraAt(2, "c"))
	checkParse(t, "- -|- - -", tightAt(0, -1, "-"), itemAt(1), tightAt(2, -1, "-"), itemAt(3), breakAt(0))
}

// P902: a List is Tight, if no line of it is Blank but at its end.
func TestTight(t *testing.T) {
	for s, want := range map[string]bool{
		"- a": true, "- a|": true, "- a| |\t": true, "- a|- b||": true, "- a||b": true, "-|-": true, "- |-  ": true,
		"- a|  # b|  ---|  > c|  >|  > d": true,
		"- a|  - b|  - c||d":              true,
		"- a||- b":                        false,
		"- a|\t|- b":                      false,
		"- a|- b||- c":                    false,
		"-||-":                            false,
		"-||  a":                          false,
		"- a||  b":                        false,
		"- ~~~|  a||  b|  ~~~":            false,
		"-     a||      b":                false,
		"- a|  - b||  - c":                false,
		"- a|  - b||    c":                false,
		"- a|  - b||- c":                  false,
		"- a||+ b":                        true,
		"- a||":                           true,
		"|- a|- b":                        true,
	} {
		b := Parse(lines(s)...)
		if len(b) == 0 || b[0].Kind != api.List || b[0].Tight != want {
			t.Errorf("Parse(%q): %+v, and not Tight %v", s, b, want)
		}
	}
	// Each List asks its own lines.
	checkParse(t, "- a|  - b||- c", looseAt(0, -1, "-"), itemAt(1), paraAt(2, "a"), tightAt(2, -1, "-"), itemAt(3), paraAt(4, "b"), itemAt(1), paraAt(2, "c"))
	checkParse(t, "- a||  - b|  - c", looseAt(0, -1, "-"), itemAt(1), paraAt(2, "a"), tightAt(2, -1, "-"), itemAt(3), paraAt(4, "b"), itemAt(3), paraAt(4, "c"))
	checkParse(t, "- > - a|  >|  > - b|- c", tightAt(0, -1, "-"), itemAt(1), quoteAt(2), looseAt(3, -1, "-"), itemAt(4), paraAt(5, "a"), itemAt(4), paraAt(5, "b"), itemAt(1), paraAt(2, "c"))
	checkParse(t, "- a|+ b||+ c", tightAt(0, -1, "-"), itemAt(1), paraAt(2, "a"), looseAt(0, -1, "+"), itemAt(1), paraAt(2, "b"), itemAt(1), paraAt(2, "c"))
}

// inside are the containers that the signs > and - begin, one in the other.
func inside(signs string) (line string, b []api.Block) {
	for _, r := range signs {
		line += string(r) + " "
		if r == '>' {
			b = append(b, quoteAt(len(b)))
		} else {
			b = append(b, tightAt(len(b), -1, "-"), itemAt(len(b)+1))
		}
	}
	return line, b
}

// P901: no container is as deep as MaxDepth: a Quote's, an Item's lines would be text.
func TestMaxDepth(t *testing.T) {
	for _, signs := range []string{
		strings.Repeat(">", 12), strings.Repeat("-", 6), strings.Repeat(">-", 4), strings.Repeat("->", 4), strings.Repeat(">", 10) + "-", "-" + strings.Repeat(">", 10), strings.Repeat("-", 5) + ">>",
	} {
		ahead, b := inside(signs)
		if len(b) != api.MaxDepth {
			t.Fatalf("%q: %d containers", signs, len(b))
		}
		for _, s := range []string{"a", "> a", "- a", "1. a", "+", "1.", ">", "> > a", "- > a"} {
			checkLines(t, []string{ahead + s}, append(slices.Clip(b), paraAt(api.MaxDepth, s))...)
		}
		checkLines(t, []string{ahead + "# a"}, append(slices.Clip(b), headAt(api.MaxDepth, 1, "a"))...)
		checkLines(t, []string{ahead + "~~~ a"}, append(slices.Clip(b), codeAt(api.MaxDepth, "a", ""))...)
		checkLines(t, []string{ahead + "<a"}, append(slices.Clip(b), rawAt(api.MaxDepth, "<a\n"))...)
		checkLines(t, []string{ahead + "    a"}, append(slices.Clip(b), codeAt(api.MaxDepth, "", "a\n"))...)
	}
	// One deeper there may be a Quote, but no List: its Items would be too deep.
	ahead, b := inside(strings.Repeat(">", 11))
	checkLines(t, []string{ahead + "- a"}, append(slices.Clip(b), paraAt(11, "- a"))...)
	checkLines(t, []string{ahead + "1. a"}, append(slices.Clip(b), paraAt(11, "1. a"))...)
	checkLines(t, []string{ahead + "> a"}, append(slices.Clip(b), quoteAt(11), paraAt(12, "a"))...)
}

// P901: what is too deep to begin a container does not end a Para.
func TestMaxDepthOfPara(t *testing.T) {
	twice := func(depth int, second string, b ...api.Block) {
		t.Helper()
		ahead, around := inside(strings.Repeat(">", depth))
		checkLines(t, []string{ahead + "a", ahead + second}, append(around, b...)...)
	}
	twice(12, "> b", paraAt(12, "a\n> b"))
	twice(12, "- b", paraAt(12, "a\n- b"))
	twice(12, "1. b", paraAt(12, "a\n1. b"))
	twice(12, "# b", paraAt(12, "a"), headAt(12, 1, "b"))
	twice(12, "***", paraAt(12, "a"), breakAt(12))
	twice(12, "-", headAt(12, 2, "a"))
	twice(11, "- b", paraAt(11, "a\n- b"))
	twice(11, "> b", paraAt(11, "a"), quoteAt(11), paraAt(12, "b"))
	twice(10, "- b", paraAt(10, "a"), tightAt(10, -1, "-"), itemAt(11), paraAt(12, "b"))
	ahead, around := inside(strings.Repeat(">", 12))
	checkLines(t, []string{ahead + "> a", ahead + "> > b"}, append(around, paraAt(12, "> a\n> > b"))...)
}

// least tells the least number of lines from the first on, at least from, of which ok holds; greatest the greatest.
func least(l []string, from int, ok func([]string) bool) int {
	for n := from; n < len(l); n++ {
		if ok(l[:n]) {
			return n
		}
	}
	return len(l)
}

func greatest(l []string, ok func([]string) bool) int {
	for n := len(l); n > 1; n-- {
		if ok(l[:n]) {
			return n
		}
	}
	return 1
}

// isCode tells whether lines are Blank, or deep enough, and the last is not Blank.
func isCode(l []string, columns int) bool {
	if line.Blank(l[len(l)-1]) {
		return false
	}
	for _, s := range l {
		if !line.Blank(s) && line.Indent(s) < columns {
			return false
		}
	}
	return true
}

// wantStrip are lines, without so many blanks, each with an LF behind.
func wantStrip(l []string, columns int) string {
	text := ""
	for _, s := range l {
		text += line.Strip(s, columns) + "\n"
	}
	return text
}

// described are the blocks of lines, said another way: of each block how many lines are the most, or the fewest, that may be its own.
func described(l []string, depth int) []api.Block {
	if len(l) == 0 {
		return nil
	}
	s, size := l[0], 1
	sign, count, info, fence := mark.Fence(s)
	level, text, heading := mark.Heading(s)
	_, _, _, _, item := mark.Item(s)
	var b []api.Block
	switch {
	case line.Blank(s):
	case strings.HasPrefix(line.Expand(s), "    "):
		size = greatest(l, func(l []string) bool { return isCode(l, 4) })
		b = []api.Block{codeAt(depth, "", wantStrip(l[:size], 4))}
	case fence:
		size = least(l, 2, func(l []string) bool { return mark.Closes(l[len(l)-1], sign, count) })
		code := l[1:size]
		if size > 1 && mark.Closes(l[size-1], sign, count) {
			code = l[1 : size-1]
		}
		b = []api.Block{codeAt(depth, info, wantStrip(code, line.Indent(s)))}
	case heading:
		b = []api.Block{headAt(depth, level, text)}
	case mark.Rule(s):
		b = []api.Block{breakAt(depth)}
	case isQuote(s) && depth < 12:
		b, size = describedQuote(l, depth)
	case item && depth < 11:
		b, size = describedList(l, depth)
	case mark.Html(s):
		size = greatest(l, func(l []string) bool { return !slices.ContainsFunc(l, line.Blank) })
		b = []api.Block{rawAt(depth, strings.Join(l[:size], "\n")+"\n")}
	default:
		b, size = describedPara(l, depth)
	}
	return append(b, described(l[size:], depth)...)
}

func isQuote(s string) bool {
	_, ok := mark.Quote(s)
	return ok
}

func describedQuote(l []string, depth int) ([]api.Block, int) {
	size := greatest(l, func(l []string) bool {
		return !slices.ContainsFunc(l, func(s string) bool { return !isQuote(s) })
	})
	var quoted []string
	for _, s := range l[:size] {
		rest, _ := mark.Quote(s)
		quoted = append(quoted, rest)
	}
	return append([]api.Block{quoteAt(depth)}, described(quoted, depth+1)...), size
}

// describedList finds the Items of a List from its first on: where the next one is, the one ahead is followed by it, or by Blank lines and it.
func describedList(l []string, depth int) ([]api.Block, int) {
	first, number, _, _, _ := mark.Item(l[0])
	var inside []api.Block
	from, size := 0, 0
	for {
		sign, _, columns, text, ok := mark.Item(l[from])
		if !ok || sign != first {
			break
		}
		rest := l[from+1:]
		own := greatest(append([]string{"a"}, rest...), func(l []string) bool { return isCode(l[1:], columns) }) - 1
		size = from + 1 + own
		inside = append(inside, itemAt(depth+1))
		lines := []string{text}
		for _, s := range rest[:own] {
			lines = append(lines, line.Strip(s, columns))
		}
		inside = append(inside, described(lines, depth+2)...)
		from = slices.IndexFunc(l[size:], func(s string) bool { return !line.Blank(s) }) + size
		if from < size {
			break
		}
	}
	list := looseAt(depth, number, string([]byte{first}))
	list.Tight = true
	for _, s := range l[:size] {
		list.Tight = list.Tight && strings.Trim(s, " \t") != ""
	}
	return append([]api.Block{list}, inside...), size
}

func describedPara(l []string, depth int) ([]api.Block, int) {
	size := least(l, 1, func(head []string) bool {
		s := l[len(head)]
		_, _, _, fence := mark.Fence(s)
		_, _, heading := mark.Heading(s)
		_, number, _, text, item := mark.Item(s)
		item = item && (number == 1 || number == -1) && strings.Trim(text, " \t") != ""
		return line.Blank(s) || mark.Under(s) > 0 || fence || heading || mark.Rule(s) || isQuote(s) && depth < 12 || item && depth < 11
	})
	var rows []string
	for _, s := range l[:size] {
		rows = append(rows, strings.TrimLeft(s, " \t"))
	}
	text := strings.TrimRight(strings.Join(rows, "\n"), " \t")
	if size < len(l) && mark.Under(l[size]) > 0 {
		return []api.Block{headAt(depth, mark.Under(l[size]), text)}, size + 1
	}
	return []api.Block{paraAt(depth, text)}, size
}

// checkDescribed holds what Parse answers of lines against the same said another way.
func checkDescribed(t *testing.T, l []string) {
	t.Helper()
	got, want := Parse(l...), described(l, 0)
	if !slices.Equal(got, want) {
		t.Fatalf("Parse(%q): %+v, not %+v", l, got, want)
	}
	if !Right(got...) {
		t.Fatalf("Parse(%q) is not Right: %+v", l, got)
	}
}

// checkEvery holds every list of up to most of the lines.
func checkEvery(t *testing.T, most int, l ...string) {
	t.Helper()
	var pieces []string
	for _, s := range l {
		pieces = append(pieces, s+"|")
	}
	every.Text(pieces, most, func(s string) {
		checkDescribed(t, strings.Split(s, "|")[:strings.Count(s, "|")])
	})
}

// P901, P902: every short list of awkward lines.
func TestParseOfAll(t *testing.T) {
	checkEvery(t, 3, "", "a", " \t", "   b ", "    c", "\td", "      e", "# f", "---", "***", "=", "-", "~~~ g", "  ```", "~~~~", "> h", ">", ">     i", "- j", "  - k", "+", "2. l", "1) m", "   n", "<o", "- > p", "> - q", "- ~~~", "é\xff")
	checkEvery(t, 5, "", "a", "  b", "    c", "- d", "-", "  - e", "1. f", "    + g")
	checkEvery(t, 5, "", "~~~", "  ~~~", "~~~~", "    ~~~", "\ta", "  b", "- ~~~")
	checkEvery(t, 5, "", "> a", ">", "> > b", "c", "> - d", ">   e", "    f")
	checkEvery(t, 5, " ", "a", "    b", "===", "---", "# c", "\t ", "<d")
	checkEvery(t, 6, "", "     ", "- a", "      b", "  c")
	checkEvery(t, 6, "", "- ", "- - a", "  b", "    c")
}

// P901, P902: every short line of the pieces that containers and what lies in them begin with, alone, and with lines behind.
func TestLinesOfAll(t *testing.T) {
	every.Text([]string{" ", "   ", "\t", "-", ">", "1.", "a", "#", "~~~"}, 5, func(s string) {
		checkDescribed(t, []string{s})
		checkDescribed(t, []string{"a", s})
		checkDescribed(t, []string{s, "  b", "", "      c"})
	})
}

// P901, P902: long documents of lines that are drawn, each the same for every run.
func TestParseOfMany(t *testing.T) {
	pieces := []string{"", "", " ", "  ", "    ", "\t", "> ", "> ", ">", "- ", "- ", "* ", "1. ", "10) ", "#", "# ", "~~~", "```", "---", "===", "<", "a", "a", "b ", "\xff", "\u00a0", "\n"}
	draw := rand.New(rand.NewPCG(9, 1))
	deepest := 0
	for range 30000 {
		l := make([]string, draw.IntN(20))
		// Lines that begin alike go on in what is open.
		ahead := ""
		for i := range l {
			if draw.IntN(3) == 0 {
				ahead = strings.Repeat(pieces[draw.IntN(len(pieces))], draw.IntN(4)) + strings.Repeat(pieces[draw.IntN(len(pieces))], draw.IntN(8))
			}
			l[i] = ahead + pieces[draw.IntN(len(pieces))] + pieces[draw.IntN(len(pieces))]
		}
		checkDescribed(t, l)
		for _, b := range Parse(l...) {
			deepest = max(deepest, b.Depth)
		}
	}
	if deepest != api.MaxDepth {
		t.Errorf("the deepest is %d", deepest)
	}
}

// P901: an answer is new, and nothing is kept of what was handed in, nor from call to call.
func TestParseIsNew(t *testing.T) {
	const s = "# a|> b|> - c||  1. d|~~~ e|    f"
	l := lines(s)
	first := Parse(l...)
	kept := slices.Clone(first)
	second := Parse(l...)
	for i := range first {
		first[i] = api.Block{Kind: -1, Depth: 99}
	}
	for i := range l {
		l[i] = "-"
	}
	if !slices.Equal(second, kept) {
		t.Errorf("an answer turned with another one, or with what was handed in: %+v", second)
	}
	checkParse(t, "- x", tightAt(0, -1, "-"), itemAt(1), paraAt(2, "x"))
	checkParse(t, s, kept...)
	// Lines behind those that are handed in are left.
	l = lines("- a|  b|c|d")
	Parse(l[:2]...)
	if !slices.Equal(l, lines("- a|  b|c|d")) {
		t.Errorf("Parse wrote behind its lines: %q", l)
	}
}

// P901, P902: long lists, and long lines, take no longer than their length asks.
func TestLong(t *testing.T) {
	const n = 1 << 17
	count := func(want int, l ...string) {
		t.Helper()
		if got := Parse(l...); len(got) != want || !Right(got...) {
			t.Errorf("%d blocks of many %.20q, not %d", len(got), l[:min(len(l), 3)], want)
		}
	}
	for s, want := range map[string]int{
		"": 0, "a": 1, "    a": 1, "~~~": n / 2, "~~~ a": 1, "# a": n, "---": n, "===": n / 2, "> a": 2, ">": 1, "- a": 1 + 2*n, "-": 1 + n, "<a": 1, "> > > > > > > > > > > > > a": 13, "- - - - - - - a": 1 + 12*n, "1. > - > a": 1 + 6*n,
	} {
		count(want, slices.Repeat([]string{s}, n)...)
	}
	blanks := slices.Repeat([]string{""}, n)
	for _, s := range []string{"a", "    a", "- a", "-", "- - - - - - a", "> a", "<a", "2. > a"} {
		many := Parse(slices.Concat([]string{s}, blanks, []string{s})...)
		few := Parse(s, "", s)
		if len(many) != len(few) {
			t.Errorf("%d blocks of many Blank lines between %q, not %d", len(many), s, len(few))
		}
	}
	for _, s := range []string{" ", "\t", "> ", "- ", "#", "~", "-", "a ", "<"} {
		long := strings.Repeat(s, n)
		for _, l := range [][]string{{long}, {long + "a"}, {"- " + long, "  " + long}, {"a", long, "b"}} {
			if got := Parse(l...); !Right(got...) {
				t.Errorf("Parse of many %q: %d blocks, not Right", s, len(got))
			}
		}
	}
	if got := Plain(strings.Repeat(" \t", n) + "a" + strings.Repeat("\t ", n)); got != "a" {
		t.Errorf("Plain of a long text: %.20q", got)
	}
}

// checkRight holds what Right answers of blocks, and that it writes nothing.
func checkRight(t *testing.T, want bool, b ...api.Block) {
	t.Helper()
	kept := slices.Clone(b)
	if Right(b...) != want {
		t.Errorf("Right(%+v): %v", b, !want)
	}
	if !slices.Equal(b, kept) {
		t.Errorf("Right(%+v) wrote into it", kept)
	}
}

// of is a block of a kind, at a depth.
func of(kind, depth int) api.Block { return api.Block{Kind: kind, Depth: depth, N: 1} }

// P903: kinds, and what they hold.
func TestRightOfKinds(t *testing.T) {
	checkRight(t, true)
	for kind := -3; kind <= 20; kind++ {
		// A List needs an Item, an Item a List.
		may := kind >= 1 && kind <= 9 && kind != api.List && kind != api.Item
		checkRight(t, may, of(kind, 0))
		checkRight(t, may, of(api.Para, 0), of(kind, 0))
		checkRight(t, may, of(api.Quote, 0), of(kind, 1))
		checkRight(t, may, of(api.Div, 0), of(kind, 1))
		checkRight(t, may, of(api.List, 0), of(api.Item, 1), of(kind, 2))
		checkRight(t, kind == api.Item, of(api.List, 0), of(kind, 1))
		checkRight(t, kind == api.Item, of(api.List, 0), of(api.Item, 1), of(kind, 1))
		checkRight(t, may, of(api.List, 0), of(api.Item, 1), of(kind, 0))
		holds := kind == api.Quote || kind == api.Div
		checkRight(t, holds, of(kind, 0), of(api.Para, 1))
	}
	for _, kind := range []int{math.MinInt, math.MaxInt, 1 << 32, 1<<32 + 1, -1 << 31} {
		checkRight(t, false, of(kind, 0))
	}
}

// P903: a heading's level; the N of others is not asked.
func TestRightOfNumbers(t *testing.T) {
	for _, n := range []int{math.MinInt, -1, 0, 1, 2, 3, 4, 5, 6, 7, 9, 1<<32 + 1, math.MaxInt} {
		for _, kind := range []int{api.Para, api.Quote, api.Code, api.Break, api.Raw, api.Div} {
			checkRight(t, true, api.Block{Kind: kind, N: n, Tight: true, Text: "\x00\n", Info: " "})
		}
		checkRight(t, n >= 1 && n <= 6, api.Block{Kind: api.Head, N: n})
		checkRight(t, true, api.Block{Kind: api.List, N: n, Info: "x"}, api.Block{Kind: api.Item, Depth: 1, N: n, Text: "a"})
	}
}

// P903: depths.
func TestRightOfDepths(t *testing.T) {
	for _, depth := range []int{math.MinInt, -1, 0, 1, 2, 3, 1 << 32, math.MaxInt} {
		checkRight(t, depth == 0, of(api.Para, depth))
		checkRight(t, depth == 0, of(api.Quote, depth))
		checkRight(t, depth == 0, of(api.Para, 0), of(api.Para, depth))
		checkRight(t, depth == 0 || depth == 1, of(api.Quote, 0), of(api.Para, depth))
		checkRight(t, depth == 0 || depth == 1, of(api.Quote, 0), of(api.Para, 1), of(api.Break, depth))
		checkRight(t, depth == 0 || depth == 2, of(api.List, 0), of(api.Item, 1), of(api.Para, depth))
		checkRight(t, depth >= 0 && depth <= 3, of(api.Div, 0), of(api.Div, 1), of(api.Quote, 2), of(api.Raw, depth))
	}
	// Behind a List its Item must come at once.
	checkRight(t, false, of(api.List, 0), of(api.List, 0), of(api.Item, 1))
	checkRight(t, false, of(api.Quote, 0), of(api.List, 1), of(api.Para, 0))
	checkRight(t, false, of(api.List, 0), of(api.Item, 1), of(api.List, 2))
	checkRight(t, false, of(api.List, 0), of(api.Item, 1), of(api.List, 2), of(api.Item, 1))
	checkRight(t, false, of(api.List, 0), of(api.Item, 1), of(api.Quote, 2), of(api.Item, 3))
	checkRight(t, true, of(api.List, 0), of(api.Item, 1), of(api.List, 2), of(api.Item, 3), of(api.Item, 1), of(api.Quote, 2), of(api.Div, 3), of(api.Para, 0))
	const n = 1 << 16
	var b []api.Block
	for depth := range n {
		b = append(b, of(api.Quote+depth%2*(api.Div-api.Quote), depth))
	}
	checkRight(t, true, append(b, of(api.Para, n))...)
	checkRight(t, true, append(b, of(api.Para, 0))...)
	checkRight(t, false, append(b, of(api.Para, n+1))...)
}

// describedRight tells whether blocks may lie right in one of this kind (0: in none), said another way: each with all behind that is deeper.
func describedRight(b []api.Block, depth, within int) bool {
	if len(b) == 0 {
		return within != api.List
	}
	kind := b[0].Kind
	if b[0].Depth != depth || kind < 1 || kind > 9 || kind == api.Head && (b[0].N < 1 || b[0].N > 6) || (kind == api.Item) != (within == api.List) {
		return false
	}
	size := 1
	for size < len(b) && b[size].Depth > depth {
		size++
	}
	leaf := kind != api.Quote && kind != api.List && kind != api.Item && kind != api.Div
	if leaf && size > 1 || !describedRight(b[1:size], depth+1, kind) {
		return false
	}
	return size == len(b) || describedRight(b[size:], depth, within)
}

// P903: Right of every short list of blocks, against the same said another way.
func TestRightOfAll(t *testing.T) {
	check := func(most, wantRight int, pool ...api.Block) {
		t.Helper()
		var pieces []string
		for i := range pool {
			pieces = append(pieces, string([]byte{byte(i)}))
		}
		right := 0
		every.Text(pieces, most, func(s string) {
			var b []api.Block
			for _, i := range []byte(s) {
				b = append(b, pool[i])
			}
			want := describedRight(b, 0, 0)
			if Right(b...) != want {
				t.Fatalf("Right(%+v): %v", b, !want)
			}
			if want {
				right++
			}
		})
		if right < wantRight {
			t.Errorf("only %d are Right", right)
		}
	}
	var wide, narrow []api.Block
	for depth := -1; depth <= 3; depth++ {
		wide = append(wide, of(0, depth), of(api.Para, depth), of(api.Quote, depth), of(api.List, depth), of(api.Item, depth))
		if depth >= 0 {
			narrow = append(narrow, of(api.Para, depth), of(api.List, depth), of(api.Item, depth))
		}
	}
	check(4, 50, wide...)
	check(5, 50, narrow...)
	check(3, 50, of(api.Head, 0), headAt(1, 0, ""), headAt(1, 6, ""), headAt(0, 7, ""), of(api.Div, 0), of(api.Div, 1), of(api.Raw, 2), of(api.Break, 1), of(api.Code, 0), of(10, 1))
}

// P903: Plain, by examples, and of every short text.
func TestPlain(t *testing.T) {
	for s, want := range map[string]string{
		"": "", " ": "", "\t \t": "", "a": "a", " \ta b\t ": "a b", "a\t b": "a\t b", "\na\n": "\na\n", " \n ": "\n", "\ra ": "\ra", "é ": "é", "\u00a0a\u2003": "\u00a0a\u2003", " \xff ": "\xff", "\t\xc3\t": "\xc3", " \x00 ": "\x00", " \ufffd\t": "\ufffd",
	} {
		if got := Plain(s); got != want {
			t.Errorf("Plain(%q): %q, not %q", s, got, want)
		}
	}
	every.Text([]string{" ", "\t", "a", "\n", "é", "\xff", "\u00a0", "\ufffd"}, 5, func(s string) {
		if got, want := Plain(s), strings.Trim(s, " \t"); got != want {
			t.Fatalf("Plain(%q): %q, not %q", s, got, want)
		}
	})
}
