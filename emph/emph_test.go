package emph

import (
	"fmt"
	"math"
	"math/rand"
	"slices"
	"strings"
	"testing"

	"bowdler/api"
	"bowdler/every"
	"bowdler/flank"
)

// run is a row of signs; how says what it may: o is to open, c to close.
func run(sign byte, n int, how string) Item {
	return Item{Sign: sign, N: n, Open: strings.Contains(how, "o"), Close: strings.Contains(how, "c")}
}

// stars is a row of stars.
func stars(n int, how string) Item { return run('*', n, how) }

func text(s string) Item { return Item{L: []api.Inl{words(0, s)}} }

func node(kind, depth int) api.Inl { return api.Inl{Kind: kind, Depth: depth} }

// told are nodes as a text in which no two lists are told alike.
func told(l []api.Inl) string { return fmt.Sprintf("%.2000q", fmt.Sprintf("%+v", l)) }

func list(l ...api.Inl) []api.Inl { return l }

func checkGroup(t *testing.T, l []Item, want ...api.Inl) {
	t.Helper()
	if got := Group(l...); !slices.Equal(got, want) {
		t.Errorf("Group(%.500s): %s, not %s", fmt.Sprint(l), told(got), told(want))
	}
}

func checkMerge(t *testing.T, l []api.Inl, want ...api.Inl) {
	t.Helper()
	if got := Merge(l...); !slices.Equal(got, want) {
		t.Errorf("Merge(%s): %s, not %s", told(l), told(got), told(want))
	}
}

// still is an item of the chapter said another way: nodes, or a row with what it may as yet.
type still struct {
	nodes       []api.Inl
	first       Item
	left        int
	open, close bool
}

// grouped is Group said another way: the items are one list, which is searched anew and made anew for each pair.
func grouped(l []Item) []api.Inl {
	var all []still
	for _, x := range l {
		if x.Sign == 0 {
			all = append(all, still{nodes: x.L})
		} else {
			all = append(all, still{first: x, left: x.N, open: x.Open, close: x.Close})
		}
	}
	for {
		closer := slices.IndexFunc(all, func(x still) bool { return x.close && x.left > 0 })
		if closer < 0 {
			return merged(flat(all, 0))
		}
		opener := closer - 1
		for opener >= 0 && !paired(all[opener], all[closer]) {
			opener--
		}
		if opener < 0 {
			all[closer].close = false
			continue
		}
		all = taken(all, opener, closer)
	}
}

// paired says of a row ahead and one that closes whether they are paired.
func paired(a, b still) bool {
	if a.first.Sign != b.first.Sign || !a.open || a.left <= 0 {
		return false
	}
	both := a.first.Open && a.first.Close || b.first.Open && b.first.Close
	return !(both && (a.first.N+b.first.N)%3 == 0 && !(a.first.N%3 == 0 && b.first.N%3 == 0))
}

// taken are items in which what lies between two of them is in one node.
func taken(all []still, opener, closer int) []still {
	signs, in := 1, node(api.Emph, 0)
	if all[opener].left > 1 && all[closer].left > 1 {
		signs, in = 2, node(api.Strong, 0)
	}
	all[opener].left -= signs
	all[closer].left -= signs
	nodes := append(list(in), flat(all[opener+1:closer], 1)...)
	return slices.Concat(all[:opener+1], []still{{nodes: nodes}}, all[closer:])
}

// flat are the nodes of items, deeper by so much.
func flat(all []still, deeper int) []api.Inl {
	var nodes []api.Inl
	for _, x := range all {
		for _, n := range x.nodes {
			n.Depth += deeper
			nodes = append(nodes, n)
		}
		if x.left > 0 {
			nodes = append(nodes, words(deeper, strings.Repeat(string([]byte{x.first.Sign}), x.left)))
		}
	}
	return nodes
}

// merged is Merge said another way: two words are made one, until there are none such.
func merged(l []api.Inl) []api.Inl {
	var out []api.Inl
	for _, x := range l {
		switch {
		case x.Kind != api.Words:
			out = append(out, x)
		case x.Text == "":
		case len(out) > 0 && out[len(out)-1].Kind == api.Words && out[len(out)-1].Depth == x.Depth:
			out[len(out)-1].Text += x.Text
		default:
			out = append(out, words(x.Depth, x.Text))
		}
	}
	return out
}

// checkLike holds Group against the chapter said another way.
func checkLike(t *testing.T, l []Item) {
	t.Helper()
	if got, want := Group(l...), grouped(l); !slices.Equal(got, want) {
		t.Fatalf("Group(%.500s): %s, not %s", fmt.Sprint(l), told(got), told(want))
	}
}

// lists calls f with every list of up to most of the items.
func lists(items []Item, most int, f func([]Item)) {
	var pieces []string
	for i := range items {
		pieces = append(pieces, string(rune('a'+i)))
	}
	every.Text(pieces, most, func(s string) {
		var l []Item
		for _, r := range s {
			l = append(l, items[r-'a'])
		}
		f(l)
	})
}

// P1401: no items, and items that are nodes alone.
func TestGroupOfNodes(t *testing.T) {
	checkGroup(t, nil)
	checkGroup(t, []Item{{}})
	checkGroup(t, []Item{text("")})
	checkGroup(t, []Item{text("a")}, words(0, "a"))
	checkGroup(t, []Item{text("a"), {}, text(""), text("b")}, words(0, "ab"))
	link := api.Inl{Kind: api.Link, Url: "u", Title: "t", Text: "x"}
	checkGroup(t, []Item{{L: list(link, words(1, "a"))}, {L: list(words(1, "b"), link)}}, link, words(1, "ab"), link)
	// What else nodes have says nothing, nor do the nodes of a row.
	checkGroup(t, []Item{stars(1, "o"), {N: 2, Open: true, Close: true, L: list(words(0, "a"))}, stars(1, "c")}, node(api.Emph, 0), words(1, "a"))
	checkGroup(t, []Item{{Sign: '*', N: 1, Open: true, L: list(words(0, "a"))}, text("b"), {Sign: '*', N: 1, Close: true, L: list(words(0, "c"))}}, node(api.Emph, 0), words(1, "b"))
	// Depths stand as they are, but for being deeper.
	checkGroup(t, []Item{stars(2, "o"), {L: list(words(-3, "a"), node(api.Soft, 7))}, stars(2, "c")}, node(api.Strong, 0), words(-2, "a"), node(api.Soft, 8))
}

// P1401: of two signs each Strong is made, else of one Emph.
func TestGroupOfPairs(t *testing.T) {
	emph, strong := api.Emph, api.Strong
	for _, c := range []struct {
		ahead, behind int
		nodes         []int
		begin, end    string
	}{
		{1, 1, []int{emph}, "", ""},
		{2, 2, []int{strong}, "", ""},
		{3, 3, []int{emph, strong}, "", ""},
		{4, 4, []int{strong, strong}, "", ""},
		{5, 5, []int{emph, strong, strong}, "", ""},
		{1, 2, []int{emph}, "", "*"},
		{2, 1, []int{emph}, "*", ""},
		{3, 2, []int{strong}, "*", ""},
		{2, 3, []int{strong}, "", "*"},
		{5, 3, []int{emph, strong}, "**", ""},
		{3, 4, []int{emph, strong}, "", "*"},
		{1, 7, []int{emph}, "", "******"},
	} {
		var want []api.Inl
		if c.begin != "" {
			want = append(want, words(0, c.begin))
		}
		for i, kind := range c.nodes {
			want = append(want, node(kind, i))
		}
		want = append(want, words(len(c.nodes), "a"))
		if c.end != "" {
			want = append(want, words(0, c.end))
		}
		checkGroup(t, []Item{stars(c.ahead, "o"), text("a"), stars(c.behind, "c")}, want...)
	}
	// Nothing need lie between.
	checkGroup(t, []Item{stars(3, "o"), stars(3, "c")}, node(api.Emph, 0), node(api.Strong, 1))
}

// P1401: rows that are paired with none are words.
func TestGroupOfNoPairs(t *testing.T) {
	a := text("a")
	checkGroup(t, []Item{stars(2, "o"), a}, words(0, "**a"))
	checkGroup(t, []Item{a, stars(2, "c")}, words(0, "a**"))
	checkGroup(t, []Item{stars(1, "c"), a, stars(1, "o")}, words(0, "*a*"))
	checkGroup(t, []Item{stars(2, ""), a, stars(2, "")}, words(0, "**a**"))
	checkGroup(t, []Item{stars(2, "o"), a, stars(2, "o")}, words(0, "**a**"))
	checkGroup(t, []Item{stars(2, "c"), a, stars(2, "c")}, words(0, "**a**"))
	checkGroup(t, []Item{stars(2, "oc")}, words(0, "**"))
	checkGroup(t, []Item{run('_', 1, "o"), a, stars(1, "c")}, words(0, "_a*"))
}

// P1401: a row that has no signs, or fewer, is nothing.
func TestGroupOfNoSigns(t *testing.T) {
	for _, n := range []int{0, -1, -2, -3, math.MinInt, math.MinInt + 1} {
		for _, how := range []string{"", "o", "c", "oc"} {
			none := stars(n, how)
			checkGroup(t, []Item{none})
			checkGroup(t, []Item{none, text("a"), none}, words(0, "a"))
			checkGroup(t, []Item{none, text("a"), stars(1, "c")}, words(0, "a*"))
			checkGroup(t, []Item{stars(1, "o"), text("a"), none}, words(0, "*a"))
			checkGroup(t, []Item{stars(2, "o"), none, text("a"), none, stars(2, "oc")}, node(api.Strong, 0), words(1, "a"))
		}
	}
}

// P1401: what is paired is the first row that closes, with the nearest one ahead; rows between are words.
func TestGroupNearest(t *testing.T) {
	a, b, emph := text("a"), text("b"), api.Emph
	o, c := stars(1, "o"), stars(1, "c")
	under := run('_', 1, "o")
	checkGroup(t, []Item{o, a, o, b, c}, words(0, "*a"), node(emph, 0), words(1, "b"))
	checkGroup(t, []Item{o, a, o, b, c, a, c}, node(emph, 0), words(1, "a"), node(emph, 1), words(2, "b"), words(1, "a"))
	checkGroup(t, []Item{o, a, c, b, c}, node(emph, 0), words(1, "a"), words(0, "b*"))
	checkGroup(t, []Item{o, under, a, c, run('_', 1, "c")}, node(emph, 0), words(1, "_a"), words(0, "_"))
	checkGroup(t, []Item{under, o, a, run('_', 1, "c"), c}, node(emph, 0), words(1, "*a"), words(0, "*"))
	// A row that was used in part may be used again, one that lies in a node may not.
	checkGroup(t, []Item{stars(3, "o"), a, stars(2, "c"), b, c}, node(emph, 0), node(api.Strong, 1), words(2, "a"), words(1, "b"))
	checkGroup(t, []Item{o, a, c, o, b, c}, node(emph, 0), words(1, "a"), node(emph, 0), words(1, "b"))
	checkGroup(t, []Item{o, stars(4, "o"), a, stars(2, "c"), run('_', 1, "oc"), b, run('_', 1, "oc"), c},
		words(0, "**"), node(emph, 0), node(api.Strong, 1), words(2, "a"), node(emph, 1), words(2, "b"))
	checkGroup(t, []Item{under, stars(4, "o"), a, stars(2, "c"), b, run('_', 1, "c"), stars(2, "c")},
		node(emph, 0), words(1, "**"), node(api.Strong, 1), words(2, "a"), words(1, "b"), words(0, "**"))
	// One that closes two rows, and one that is closed by two.
	checkGroup(t, []Item{stars(2, "o"), a, o, b, stars(3, "c")}, node(api.Strong, 0), words(1, "a"), node(emph, 1), words(2, "b"))
	checkGroup(t, []Item{stars(3, "o"), a, c, b, stars(2, "c")}, node(api.Strong, 0), node(emph, 1), words(2, "a"), words(1, "b"))
	// One that closes, and opens with what it has left: it stands behind what it closed.
	checkGroup(t, []Item{o, a, stars(4, "oc"), b, stars(3, "c")}, node(emph, 0), words(1, "a"), node(emph, 0), node(api.Strong, 1), words(2, "b"))
	checkGroup(t, []Item{o, a, stars(4, "oc"), b, c}, node(emph, 0), words(1, "a"), words(0, "**"), node(emph, 0), words(1, "b"))
	checkGroup(t, []Item{o, a, stars(3, "c"), b, c}, node(emph, 0), words(1, "a"), words(0, "**b*"))
}

// P1401: of three, by every number of signs, and by what rows may at first.
func TestGroupOfThree(t *testing.T) {
	for _, ahead := range []string{"o", "oc"} {
		for _, behind := range []string{"c", "oc"} {
			for m := 1; m <= 12; m++ {
				for n := 1; n <= 12; n++ {
					none := ahead+behind != "oc" && (m+n)%3 == 0 && m%3 != 0
					got := Group(stars(m, ahead), text("a"), stars(n, behind))
					if is := !slices.ContainsFunc(got, func(x api.Inl) bool { return x.Kind != api.Words }); is != none {
						t.Errorf("rows of %d (%s) and %d (%s): %s", m, ahead, n, behind, told(got))
					}
				}
			}
		}
	}
	a, b := text("a"), text("b")
	// One that does not fit is passed by.
	checkGroup(t, []Item{stars(1, "o"), a, stars(2, "oc"), b, stars(1, "c")}, node(api.Emph, 0), words(1, "a**b"))
	checkGroup(t, []Item{stars(2, "o"), a, stars(1, "oc"), b, stars(2, "c")}, node(api.Strong, 0), words(1, "a*b"))
	checkGroup(t, []Item{run('_', 1, "o"), a, run('_', 2, "oc"), stars(1, "o"), b, run('_', 1, "c")}, node(api.Emph, 0), words(1, "a__*b"))
	// It may close no more, but counts as one that may both; so does one that has fewer signs left.
	checkGroup(t, []Item{a, stars(1, "oc"), b, stars(2, "c")}, words(0, "a*b**"))
	checkGroup(t, []Item{stars(2, "oc"), a, stars(1, "c"), b, stars(2, "c")}, node(api.Strong, 0), words(1, "a*b"))
	checkGroup(t, []Item{stars(1, "o"), a, stars(3, "oc"), b, stars(1, "c")}, node(api.Emph, 0), words(1, "a"), words(0, "*"), node(api.Emph, 0), words(1, "b"))
	checkGroup(t, []Item{stars(5, "o"), a, stars(3, "oc"), b, stars(1, "oc")}, words(0, "**"), node(api.Emph, 0), node(api.Strong, 1), words(2, "a"), words(0, "b*"))
	checkGroup(t, []Item{stars(4, "o"), a, stars(3, "c"), b, stars(2, "oc")}, words(0, "*"), node(api.Emph, 0), node(api.Strong, 1), words(2, "a"), words(0, "b**"))
}

// P1401: every short list of rows of one sign, with what they may.
func TestGroupOfAllRows(t *testing.T) {
	var items []Item
	for n := 1; n <= 4; n++ {
		for _, how := range []string{"o", "c", "oc"} {
			items = append(items, stars(n, how))
		}
	}
	lists(append(items, text("a")), 5, func(l []Item) { checkLike(t, l) })
}

// P1401: every short list of rows of two signs, nodes, and rows that are none.
func TestGroupOfAllItems(t *testing.T) {
	link := Item{L: list(node(api.Link, 0), words(1, "b"))}
	lists([]Item{stars(1, "o"), stars(2, "c"), stars(3, "oc"), run('_', 1, "oc"), run('_', 2, "o"), run('_', 2, "c"), stars(0, "oc"), stars(2, ""), text("a"), link}, 5, func(l []Item) {
		checkLike(t, l)
	})
	lists([]Item{stars(1, "oc"), stars(2, "oc"), run('_', 1, "o"), run('_', 3, "c"), text("a")}, 7, func(l []Item) { checkLike(t, l) })
}

// P1401: long lists, also of many signs.
func TestGroupOfManyItems(t *testing.T) {
	random := rand.New(rand.NewSource(14))
	for range 20000 {
		signs := "*_~\xff"[:1+random.Intn(4)]
		var l []Item
		for range random.Intn(60) {
			if random.Intn(3) == 0 {
				l = append(l, text(string(rune('a'+random.Intn(3)))))
				continue
			}
			l = append(l, run(signs[random.Intn(len(signs))], random.Intn(8)-1, []string{"", "o", "c", "oc", "oc"}[random.Intn(5)]))
		}
		checkLike(t, l)
	}
}

// P1401: every byte but 0 is a sign, and is paired with its like alone.
func TestGroupOfEachSign(t *testing.T) {
	for b := 1; b < 256; b++ {
		sign, other := byte(b), byte(b%255+1)
		checkGroup(t, []Item{run(sign, 3, "o"), text("a"), run(sign, 2, "c")}, words(0, string([]byte{sign})), node(api.Strong, 0), words(1, "a"))
		checkGroup(t, []Item{run(sign, 2, "o"), text("a"), run(other, 1, "c")}, words(0, string([]byte{sign, sign, 'a', other})))
		checkLike(t, []Item{run(sign, 1, "o"), run(other, 1, "o"), text("a"), run(sign, 1, "oc"), run(other, 1, "oc"), text("b"), run(sign, 1, "c")})
	}
}

// P1401: texts that are read by hand, their rows by flank.
func TestGroupOfTexts(t *testing.T) {
	for s, want := range map[string]string{
		"*foo bar*":                   "<e>foo bar</e>",
		"a * foo bar*":                "a * foo bar*",
		"foo*bar*":                    "foo<e>bar</e>",
		"_foo bar_":                   "<e>foo bar</e>",
		"foo_bar_":                    "foo_bar_",
		"_foo*":                       "_foo*",
		"*foo bar *":                  "*foo bar *",
		"*(*foo*)*":                   "<e>(<e>foo</e>)</e>",
		"_(_foo_)_":                   "<e>(<e>foo</e>)</e>",
		"_foo_bar_baz_":               "<e>foo_bar_baz</e>",
		"**foo bar**":                 "<s>foo bar</s>",
		"foo**bar**":                  "foo<s>bar</s>",
		"__foo, __bar__, baz__":       "<s>foo, <s>bar</s>, baz</s>",
		"**foo \"*bar*\" foo**":       "<s>foo \"<e>bar</e>\" foo</s>",
		"_foo __bar__ baz_":           "<e>foo <s>bar</s> baz</e>",
		"_foo _bar_ baz_":             "<e>foo <e>bar</e> baz</e>",
		"__foo_ bar_":                 "<e><e>foo</e> bar</e>",
		"*foo *bar**":                 "<e>foo <e>bar</e></e>",
		"*foo**bar**baz*":             "<e>foo<s>bar</s>baz</e>",
		"*foo**bar*":                  "<e>foo**bar</e>",
		"***foo** bar*":               "<e><s>foo</s> bar</e>",
		"*foo **bar***":               "<e>foo <s>bar</s></e>",
		"*foo**bar***":                "<e>foo<s>bar</s></e>",
		"foo***bar***baz":             "foo<e><s>bar</s></e>baz",
		"foo******bar*********baz":    "foo<s><s><s>bar</s></s></s>***baz",
		"*foo **bar *baz* bim** bop*": "<e>foo <s>bar <e>baz</e> bim</s> bop</e>",
		"** is not":                   "** is not",
		"**** is not":                 "**** is not",
		"**foo*bar*baz**":             "<s>foo<e>bar</e>baz</s>",
		"***foo* bar**":               "<s><e>foo</e> bar</s>",
		"**foo *bar***":               "<s>foo <e>bar</e></s>",
		"foo *****":                   "foo *****",
		"**foo*":                      "*<e>foo</e>",
		"*foo**":                      "<e>foo</e>*",
		"***foo**":                    "*<s>foo</s>",
		"****foo*":                    "***<e>foo</e>",
		"**foo***":                    "<s>foo</s>*",
		"*foo****":                    "<e>foo</e>***",
		"*_foo_*":                     "<e><e>foo</e></e>",
		"******foo******":             "<s><s><s>foo</s></s></s>",
		"_____foo_____":               "<e><s><s>foo</s></s></e>",
		"*foo _bar* baz_":             "<e>foo _bar</e> baz_",
		"*foo __bar *baz bim__ bam*":  "<e>foo <s>bar *baz bim</s> bam</e>",
		"**foo **bar baz**":           "**foo <s>bar baz</s>",
		"*foo *bar baz*":              "*foo <e>bar baz</e>",
	} {
		if got := written(Group(rows(s)...)); got != want {
			t.Errorf("%q: %q, not %q", s, got, want)
		}
	}
}

// rows are the items of a text that has no other signs.
func rows(s string) []Item {
	var l []Item
	for i := 0; i < len(s); {
		end := i + 1
		if s[i] != '*' && s[i] != '_' {
			for end < len(s) && s[end] != '*' && s[end] != '_' {
				end++
			}
			l = append(l, text(s[i:end]))
		} else {
			for end < len(s) && s[end] == s[i] {
				end++
			}
			before, after := flank.Around(s, i, end)
			l = append(l, Item{Sign: s[i], N: end - i, Open: flank.Opens(s[i], before, after), Close: flank.Closes(s[i], before, after)})
		}
		i = end
	}
	return l
}

// written are Words, Emph and Strong with their signs.
func written(l []api.Inl) string {
	var out strings.Builder
	var open []string
	for _, x := range append(l, api.Inl{Kind: api.Words}) {
		for len(open) > x.Depth {
			out.WriteString(open[len(open)-1])
			open = open[:len(open)-1]
		}
		switch x.Kind {
		case api.Words:
			out.WriteString(x.Text)
		case api.Emph:
			out.WriteString("<e>")
			open = append(open, "</e>")
		case api.Strong:
			out.WriteString("<s>")
			open = append(open, "</s>")
		}
	}
	return out.String()
}

// P1401: what was handed in stays, and no answer hangs on another one.
func TestGroupLeavesItems(t *testing.T) {
	in := list(api.Inl{Kind: api.Words, Text: "a", Url: "u", Title: "t"}, words(0, ""), node(api.Soft, 0))
	l := []Item{stars(2, "o"), {L: in}, stars(3, "oc"), {L: in}}
	kept := slices.Clone(in)
	first := Group(l...)
	want := list(node(api.Strong, 0), words(1, "a"), node(api.Soft, 1), words(0, "*a"), node(api.Soft, 0))
	if !slices.Equal(first, want) {
		t.Errorf("Group: %s", told(first))
	}
	clear(first)
	if again := Group(l...); !slices.Equal(again, want) {
		t.Errorf("Group once more: %s", told(again))
	}
	if !slices.Equal(in, kept) || l[0].N != 2 || l[2].N != 3 || !l[2].Close {
		t.Errorf("Group turned what was handed in: %v", l)
	}
}

// Of more signs than any answer may have nothing is promised, but an end.
func TestGroupOfTooManySigns(t *testing.T) {
	for _, l := range [][]Item{
		{stars(math.MaxInt, "o")},
		{stars(math.MaxInt, "o"), stars(math.MaxInt, "c")},
		{stars(math.MaxInt32, "oc"), stars(1, "oc")},
		{stars(1, "o"), run('_', math.MaxInt32, "c")},
	} {
		if got := Group(l...); got != nil {
			t.Errorf("Group(%v): %d nodes", l, len(got))
		}
	}
	// Of nodes the number says nothing.
	checkGroup(t, []Item{{N: math.MaxInt, L: list(words(0, "a"))}, {N: math.MaxInt}, stars(math.MinInt, "oc"), stars(1, "")}, words(0, "a*"))
}

// many are n times these items.
func many(n int, l ...Item) []Item { return slices.Repeat(l, n) }

// P1401: many rows, in time that goes by their number.
func TestGroupOfLong(t *testing.T) {
	const n = 1 << 18
	a := text("a")
	checkGroup(t, many(n, stars(1, "o"), a), words(0, strings.Repeat("*a", n)))
	checkGroup(t, many(n, a, stars(1, "c")), words(0, strings.Repeat("a*", n)))
	checkGroup(t, []Item{stars(n, "oc"), a}, words(0, strings.Repeat("*", n)+"a"))
	pair := Group(many(n, stars(1, "o"), a, stars(1, "c"))...)
	if !slices.Equal(pair, slices.Repeat(list(node(api.Emph, 0), words(1, "a")), n)) {
		t.Errorf("many pairs: %d nodes", len(pair))
	}
	// Many that may open, and none of them fits what closes.
	three := Group(append(many(n, stars(1, "o"), a), many(n, stars(2, "oc"), a)...)...)
	want := append(list(words(0, strings.Repeat("*a", n))), slices.Repeat(list(node(api.Strong, 0), words(1, "a"), words(0, "a")), n/2)...)
	if !slices.Equal(three, want) {
		t.Errorf("many that do not fit: %s", told(three[:10]))
	}
	other := append(many(n, stars(1, "o"), a), many(n, run('_', 1, "c"), a)...)
	checkGroup(t, other, words(0, strings.Repeat("*a", n)+strings.Repeat("_a", n)))
	// Many that may open lie in one.
	in := slices.Concat([]Item{run('_', 1, "o")}, many(n, stars(1, "o"), a), []Item{run('_', 1, "c")}, many(n, stars(1, "c")))
	checkGroup(t, in, node(api.Emph, 0), words(1, strings.Repeat("*a", n)), words(0, strings.Repeat("*", n)))
}

// P1401: nodes as deep in one another as they may be, by many rows and by two.
func TestGroupOfDeep(t *testing.T) {
	const deepest = 1 << 16
	a := text("a")
	var want []api.Inl
	for depth := range deepest {
		want = append(want, node(api.Emph, depth), words(depth+1, "a"))
	}
	checkGroup(t, append(many(deepest, stars(1, "o"), a), many(deepest, stars(1, "c"))...), want...)
	want = nil
	for depth := range deepest {
		want = append(want, node(api.Strong, depth))
	}
	checkGroup(t, []Item{stars(2*deepest, "o"), a, stars(2*deepest, "c")}, append(want, words(deepest, "a"))...)
}

// P1402: Merge, by examples.
func TestMerge(t *testing.T) {
	soft := node(api.Soft, 0)
	checkMerge(t, nil)
	checkMerge(t, list(words(0, "")))
	checkMerge(t, list(words(0, "a")), words(0, "a"))
	checkMerge(t, list(words(0, "a"), words(0, "b"), words(0, "c")), words(0, "abc"))
	checkMerge(t, list(words(0, "a"), words(1, "b"), words(1, "c"), words(0, "d")), words(0, "a"), words(1, "bc"), words(0, "d"))
	checkMerge(t, list(words(0, "a"), soft, words(0, "b")), words(0, "a"), soft, words(0, "b"))
	// What is none goes first, wherever it stands.
	checkMerge(t, list(words(0, "a"), words(0, ""), words(0, "b")), words(0, "ab"))
	checkMerge(t, list(words(0, "a"), words(7, ""), words(-1, ""), words(0, "b")), words(0, "ab"))
	checkMerge(t, list(words(0, ""), soft, words(0, ""), soft, words(0, "")), soft, soft)
	// Of words alone.
	code := api.Inl{Kind: api.Verb, Text: "a", Url: "u", Title: "t"}
	checkMerge(t, list(code, code), code, code)
	for kind := -1; kind <= 14; kind++ {
		if kind == api.Words {
			continue
		}
		x := api.Inl{Kind: kind, Depth: 3, Text: "x", Url: "u", Title: "t"}
		none := node(kind, 0)
		checkMerge(t, list(x, x, none, words(0, "a"), none), x, x, none, words(0, "a"), none)
	}
	// Of words Url and Title go, and say nothing.
	url := api.Inl{Kind: api.Words, Text: "a", Url: "u", Title: "t"}
	checkMerge(t, list(url), words(0, "a"))
	checkMerge(t, list(words(0, "b"), url, url), words(0, "baa"))
	checkMerge(t, list(soft, api.Inl{Kind: api.Words, Url: "u", Title: "t"}), soft)
	// Texts are bytes.
	checkMerge(t, list(words(0, "\xc3"), words(0, "\xa9\x00"), words(0, "\xff\ufffd")), words(0, "é\x00\xff\ufffd"))
}

// nodesOf calls f with every list of up to most of the nodes.
func nodesOf(nodes []api.Inl, most int, f func([]api.Inl)) {
	var items []Item
	for _, x := range nodes {
		items = append(items, Item{L: list(x)})
	}
	lists(items, most, func(l []Item) {
		var all []api.Inl
		for _, x := range l {
			all = append(all, x.L...)
		}
		f(all)
	})
}

// P1402: every short list of nodes.
func TestMergeOfAll(t *testing.T) {
	url := api.Inl{Kind: api.Words, Depth: 1, Text: "u", Url: "u", Title: "t"}
	nodesOf(list(words(0, "a"), words(0, "b"), words(1, "c"), words(0, ""), words(1, ""), url, node(api.Emph, 0), api.Inl{Kind: api.Verb, Text: "d"}), 5, func(l []api.Inl) {
		if got, want := Merge(l...), merged(l); !slices.Equal(got, want) {
			t.Fatalf("Merge(%s): %s, not %s", told(l), told(got), told(want))
		}
	})
}

// P1402: what was handed in stays, also with nodes that go.
func TestMergeLeavesNodes(t *testing.T) {
	l := list(words(0, ""), words(0, "a"), words(0, "b"), node(api.Soft, 0), api.Inl{Kind: api.Words, Text: "c", Url: "u"})
	kept := slices.Clone(l)
	first := Merge(l...)
	if !slices.Equal(l, kept) {
		t.Errorf("Merge turned what was handed in: %s", told(l))
	}
	clear(first)
	checkMerge(t, l, words(0, "ab"), node(api.Soft, 0), words(0, "c"))
}

// P1402: Text, by kinds.
func TestText(t *testing.T) {
	if got := Text(); got != "" {
		t.Errorf("Text of nothing: %q", got)
	}
	var all []api.Inl
	want := ""
	for kind := -2; kind <= 14; kind++ {
		x := api.Inl{Kind: kind, Depth: kind, Text: fmt.Sprint(kind, ";"), Url: "u", Title: "t"}
		one := ""
		switch kind {
		case api.Words, api.Verb, api.Image:
			one = x.Text
		case api.Soft, api.Hard:
			one = " "
		}
		if got := Text(x); got != one {
			t.Errorf("Text of the kind %d: %q, not %q", kind, got, one)
		}
		all = append(all, x)
		want += one
	}
	if got := Text(all...); got != want {
		t.Errorf("Text of all kinds: %q, not %q", got, want)
	}
	// In the order in which they stand, however deep.
	if got := Text(node(api.Emph, 0), words(1, "b"), node(api.Soft, 1), words(0, "a"), node(api.Hard, 0), words(5, "c")); got != "b a c" {
		t.Errorf("Text: %q", got)
	}
}

// P1402: the bytes of every short text stay.
func TestTextOfAll(t *testing.T) {
	every.Text([]string{"a", " ", "\n", "\x00", "é", "€", "😀", "\ufffd", "\xff", "\xc3", "\xe2\x82", "\xa9"}, 4, func(s string) {
		if got := Text(words(0, s)); got != s {
			t.Fatalf("Text of %q: %q", s, got)
		}
		if got := Text(words(0, s), api.Inl{Kind: api.Verb, Text: s}, api.Inl{Kind: api.Tag, Text: s}, api.Inl{Kind: api.Image, Text: s}); got != s+s+s {
			t.Fatalf("Text of %q, three times: %q", s, got)
		}
		if s != "" {
			checkMerge(t, list(words(0, s), words(0, s)), words(0, s+s))
		}
	})
}

// P1402: many nodes, in time that goes by their number.
func TestMergeAndTextOfLong(t *testing.T) {
	const n = 1 << 18
	checkMerge(t, slices.Repeat(list(words(0, "é")), n), words(0, strings.Repeat("é", n)))
	apart := slices.Repeat(list(words(0, "a"), words(1, "b")), n)
	checkMerge(t, apart, apart...)
	checkMerge(t, slices.Repeat(list(words(0, "")), n))
	if got := Text(slices.Repeat(list(words(0, "a"), node(api.Soft, 0)), n)...); got != strings.Repeat("a ", n) {
		t.Errorf("Text of many nodes: %d bytes", len(got))
	}
}
