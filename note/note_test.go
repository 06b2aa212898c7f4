package note

import (
	"math"
	"slices"
	"strconv"
	"strings"
	"testing"
	"unicode/utf8"

	"bowdler/every"
)

// asked is what Ref tells.
type asked struct{ number, times int }

func ref(n *Notes, name string) asked {
	number, times := n.Ref(name)
	return asked{number, times}
}

// check holds an answer against what is wanted.
func check[T comparable](t *testing.T, call, s string, got, want T) {
	t.Helper()
	if got != want {
		t.Fatalf("%s(%.200q): %.200v, not %.200v", call, s, got, want)
	}
}

// checkAll holds all names against what is wanted.
func checkAll(t *testing.T, n *Notes, want ...string) {
	t.Helper()
	got := n.All()
	if len(got) != len(want) {
		t.Fatalf("All: %d names, not %d", len(got), len(want))
	}
	for i, name := range got {
		if name != want[i] {
			t.Fatalf("All, number %d: %.200q, not %.200q", i+1, name, want[i])
		}
	}
}

// P1801: names one behind the other, by what is told of each.
func TestRef(t *testing.T) {
	for _, c := range []struct {
		names []string
		want  []asked
		all   []string
	}{
		{nil, nil, nil},
		{[]string{"a", "b", "a"}, []asked{{1, 1}, {2, 1}, {1, 2}}, []string{"a", "b"}},
		{[]string{"a"}, []asked{{1, 1}}, []string{"a"}},
		{[]string{"a", "a", "a"}, []asked{{1, 1}, {1, 2}, {1, 3}}, []string{"a"}},
		{[]string{"b", "a", "c"}, []asked{{1, 1}, {2, 1}, {3, 1}}, []string{"b", "a", "c"}},
		{[]string{"c", "b", "b", "c", "a", "b"}, []asked{{1, 1}, {2, 1}, {2, 2}, {1, 2}, {3, 1}, {2, 3}}, []string{"c", "b", "a"}},
		// A name of no bytes is one, too.
		{[]string{""}, []asked{{1, 1}}, []string{""}},
		{[]string{"", ""}, []asked{{1, 1}, {1, 2}}, []string{""}},
		{[]string{"a", "", "b", ""}, []asked{{1, 1}, {2, 1}, {3, 1}, {2, 2}}, []string{"a", "", "b"}},
		// Names that begin, or end, alike.
		{[]string{"ab", "a", "abc", "b", "ab", "a"}, []asked{{1, 1}, {2, 1}, {3, 1}, {4, 1}, {1, 2}, {2, 2}}, []string{"ab", "a", "abc", "b"}},
		{[]string{"abc", "abd", "xbc", "aabc", "abc"}, []asked{{1, 1}, {2, 1}, {3, 1}, {4, 1}, {1, 2}}, []string{"abc", "abd", "xbc", "aabc"}},
		{[]string{"ab", "ba", "aa", "bb"}, []asked{{1, 1}, {2, 1}, {3, 1}, {4, 1}}, []string{"ab", "ba", "aa", "bb"}},
		// Names are taken as they are: none is folded, or cut.
		{[]string{"a", "A", " a", "a ", "^a", "a\n", "a\x00", "a"}, []asked{{1, 1}, {2, 1}, {3, 1}, {4, 1}, {5, 1}, {6, 1}, {7, 1}, {1, 2}}, []string{"a", "A", " a", "a ", "^a", "a\n", "a\x00"}},
		{[]string{"a b", "a  b", "a\tb", "ab", "a b"}, []asked{{1, 1}, {2, 1}, {3, 1}, {4, 1}, {1, 2}}, []string{"a b", "a  b", "a\tb", "ab"}},
		{[]string{"ä", "Ä", "a\u0308", "ae", "ä"}, []asked{{1, 1}, {2, 1}, {3, 1}, {4, 1}, {1, 2}}, []string{"ä", "Ä", "a\u0308", "ae"}},
		{[]string{"1", "2", "01", "1"}, []asked{{1, 1}, {2, 1}, {3, 1}, {1, 2}}, []string{"1", "2", "01"}},
		// Bytes that are no part of a rune.
		{[]string{"\xff", "\xfe", "\ufffd", "\xff"}, []asked{{1, 1}, {2, 1}, {3, 1}, {1, 2}}, []string{"\xff", "\xfe", "\ufffd"}},
		{[]string{"\ufffd", "\xef", "\xef\xbf", "\xbd", "\xbf\xbd", "\ufffd"}, []asked{{1, 1}, {2, 1}, {3, 1}, {4, 1}, {5, 1}, {1, 2}}, []string{"\ufffd", "\xef", "\xef\xbf", "\xbd", "\xbf\xbd"}},
		{[]string{"\xefx\ufffd", "\ufffdx\xef", "\xefx\ufffd"}, []asked{{1, 1}, {2, 1}, {1, 2}}, []string{"\xefx\ufffd", "\ufffdx\xef"}},
		{[]string{"é", "\xc3", "\xa9", "\xa9\xc3", "é"}, []asked{{1, 1}, {2, 1}, {3, 1}, {4, 1}, {1, 2}}, []string{"é", "\xc3", "\xa9", "\xa9\xc3"}},
	} {
		var n Notes
		for i, name := range c.names {
			row := strings.Join(c.names[:i+1], "|")
			check(t, "Ref", row, ref(&n, name), c.want[i])
			check(t, "Times", row, n.Times(name), c.want[i].times)
		}
		checkAll(t, &n, c.all...)
	}
}

// P1801: how often each was asked for; to ask that is not to ask for a note.
func TestTimes(t *testing.T) {
	n := &Notes{}
	for range 2 {
		for _, name := range []string{"", "a", "ab", "x", "\xff"} {
			check(t, "Times", name, n.Times(name), 0)
		}
		checkAll(t, n)
	}
	for _, name := range []string{"ab", "c", "ab", "é", "ab", "\xff"} {
		n.Ref(name)
	}
	for range 2 {
		for name, want := range map[string]int{
			"ab": 3, "c": 1, "é": 1, "\xff": 1,
			"": 0, "a": 0, "b": 0, "abc": 0, "ac": 0, "Ab": 0, "ab ": 0, "cc": 0, "é\x00": 0, "\xc3": 0, "e": 0, "\xfe": 0, "\ufffd": 0, "\xff\xff": 0, "x": 0,
		} {
			check(t, "Times", name, n.Times(name), want)
		}
		checkAll(t, n, "ab", "c", "é", "\xff")
	}
	// One that was asked about only is as new as others.
	check(t, "Ref", "x", ref(n, "x"), asked{5, 1})
	check(t, "Ref", "a", ref(n, "a"), asked{6, 1})
	check(t, "Ref", "", ref(n, ""), asked{7, 1})
	check(t, "Times", "ab", n.Times("ab"), 3)
}

// P1801: every short row of names, one by one, against a plain list of what was asked for.
func TestRefOfRows(t *testing.T) {
	names := []string{"a", "", "ab", "b", "A", "\xff", "\xef", "\ufffd"}
	every.Text([]string{"0", "1", "2", "3", "4", "5", "6", "7"}, 6, func(row string) {
		var n Notes
		var all, list []string
		for _, k := range row {
			name := names[k-'0']
			list = append(list, name)
			if !slices.Contains(all, name) {
				all = append(all, name)
			}
			check(t, "Ref", row, ref(&n, name), asked{slices.Index(all, name) + 1, count(list, name)})
		}
		checkAll(t, &n, all...)
		for _, name := range names {
			check(t, "Times", row+" "+name, n.Times(name), count(list, name))
		}
		check(t, "Times", row+" x", n.Times("x"), 0)
	})
}

func count(list []string, name string) int {
	times := 0
	for _, x := range list {
		if x == name {
			times++
		}
	}
	return times
}

// P1801: every short text of awkward pieces, all asked of one: texts of other bytes are other names.
func TestRefOfAll(t *testing.T) {
	pieces := []string{"a", "A", " ", "^", "\x00", "\n", "é", "\xc3", "\xa9", "\xff", "\ufffd", "\xef", "\xbf", "\xbd", "\U0010ffff"}
	var n Notes
	// The same text may come of other pieces, so that it is asked for again.
	numbers, times := map[string]int{}, map[string]int{}
	var all []string
	for range 2 {
		every.Text(pieces, 4, func(name string) {
			if numbers[name] == 0 {
				check(t, "Times", name, n.Times(name), 0)
				all = append(all, name)
				numbers[name] = len(all)
			}
			times[name]++
			check(t, "Ref", name, ref(&n, name), asked{numbers[name], times[name]})
		})
	}
	checkAll(t, &n, all...)
	for _, name := range all {
		check(t, "Times", name, n.Times(name), times[name])
	}
}

// P1801: every byte, and every rune, is a name of its own.
func TestRefOfEachByteAndRune(t *testing.T) {
	var n Notes
	var all []string
	one := func(name string) {
		all = append(all, name)
		check(t, "Times", name, n.Times(name), 0)
		check(t, "Ref", name, ref(&n, name), asked{len(all), 1})
	}
	for b := range 256 {
		one(string([]byte{byte(b)}))
		one("xy" + string([]byte{byte(b)}))
		one(string([]byte{byte(b)}) + "xy")
	}
	for r := rune(utf8.RuneSelf); r <= utf8.MaxRune; r++ {
		if utf8.ValidRune(r) {
			one(string(r))
		}
	}
	for i, name := range all {
		check(t, "Times", name, n.Times(name), 1)
		check(t, "Ref", name, ref(&n, name), asked{i + 1, 2})
	}
	checkAll(t, &n, all...)
}

// P1801: what one was asked for is nothing to another, and what was told is the caller's own.
func TestOwn(t *testing.T) {
	var n, m Notes
	n.Ref("a")
	n.Ref("b")
	check(t, "Times", "a", m.Times("a"), 0)
	checkAll(t, &m)
	check(t, "Ref", "b", ref(&m, "b"), asked{1, 1})
	check(t, "Ref", "b", ref(&n, "b"), asked{2, 2})

	first := n.All()
	second := n.All()
	second[0] = "x"
	second = append(second[:1], "y", "z")
	n.Ref("c")
	if want := []string{"a", "b"}; !slices.Equal(first, want) {
		t.Errorf("All: %q, not %q, when one more was asked for", first, want)
	}
	check(t, "append", "own", second[1], "y")
	checkAll(t, &n, "a", "b", "c")
	check(t, "Times", "x", n.Times("x"), 0)
	check(t, "Times", "a", n.Times("a"), 1)
	check(t, "Ref", "a", ref(&n, "a"), asked{1, 2})
	check(t, "Ref", "x", ref(&n, "x"), asked{4, 1})
}

// P1801: none has none, and nothing can be asked of it.
func TestNone(t *testing.T) {
	var none *Notes
	for range 2 {
		for _, name := range []string{"a", "", "\xff", "^a"} {
			check(t, "Ref", name, ref(none, name), asked{})
			check(t, "Times", name, none.Times(name), 0)
		}
		checkAll(t, none)
	}
}

// P1801: anchors of notes.
func TestId(t *testing.T) {
	for number, want := range map[int]string{
		1: "fn-1", 2: "fn-2", 9: "fn-9", 10: "fn-10", 12: "fn-12", 100: "fn-100", 1234567890: "fn-1234567890",
		0: "fn-0", -1: "fn--1", -5: "fn--5", -10: "fn--10",
		math.MaxInt32: "fn-2147483647", math.MinInt32: "fn--2147483648",
		math.MaxInt64: "fn-9223372036854775807", math.MinInt64: "fn--9223372036854775808",
	} {
		check(t, "Id", strconv.Itoa(number), Id(number), want)
	}
}

// P1801: anchors of where a note was asked for.
func TestBack(t *testing.T) {
	for of, want := range map[[2]int]string{
		{1, 1}: "fnref-1-1", {1, 2}: "fnref-1-2", {2, 1}: "fnref-2-1", {10, 11}: "fnref-10-11", {11, 10}: "fnref-11-10", {1, 100}: "fnref-1-100",
		{0, 0}: "fnref-0-0", {0, 1}: "fnref-0-1", {1, 0}: "fnref-1-0",
		{-5, 1}: "fnref--5-1", {5, -1}: "fnref-5--1", {-5, -1}: "fnref--5--1",
		{math.MaxInt64, math.MinInt64}: "fnref-9223372036854775807--9223372036854775808",
		{math.MinInt64, math.MaxInt64}: "fnref--9223372036854775808-9223372036854775807",
	} {
		check(t, "Back", strconv.Itoa(of[0])+", "+strconv.Itoa(of[1]), Back(of[0], of[1]), want)
	}
}

// digits says the digits of a number another way, sign by sign.
func digits(number int) string {
	if number < 0 {
		return "-" + digits(-number)
	}
	if number < 10 {
		return string([]byte{byte('0' + number)})
	}
	return digits(number/10) + digits(number%10)
}

// P1801: anchors of all small numbers, of two by two.
func TestIdAndBackOfAll(t *testing.T) {
	const most = 1100
	ids := map[string]bool{}
	for number := -most; number <= most; number++ {
		check(t, "Id", strconv.Itoa(number), Id(number), "fn-"+digits(number))
		ids[Id(number)] = true
		for time := -12; time <= 101; time++ {
			back := Back(number, time)
			check(t, "Back", strconv.Itoa(number)+", "+strconv.Itoa(time), back, "fnref-"+digits(number)+"-"+digits(time))
			ids[back] = true
		}
	}
	// W4: no two are one.
	check(t, "ids", "all", len(ids), (2*most+1)*(1+12+1+101))
}

// P1801: of long names each sign is asked a few times, and of many names none is held against all others.
func TestLong(t *testing.T) {
	const n = 1 << 18
	var long Notes
	names := []string{strings.Repeat("a", n), strings.Repeat("a", n-1), strings.Repeat("a", n-1) + "b", strings.Repeat("\xff", n), strings.Repeat("é", n)}
	for i, name := range names {
		check(t, "Ref", name, ref(&long, name), asked{i + 1, 1})
	}
	for i, name := range names {
		check(t, "Ref", name, ref(&long, name), asked{i + 1, 2})
	}
	check(t, "Times", "part", long.Times(strings.Repeat("a", n/2)), 0)
	checkAll(t, &long, names...)

	var many Notes
	for k := range n {
		name := strconv.Itoa(k)
		check(t, "Ref", name, ref(&many, name), asked{k + 1, 1})
	}
	for k := range n {
		name := strconv.Itoa(k)
		check(t, "Times", name, many.Times(name), 1)
	}
	for k := range n {
		check(t, "Ref", "7", ref(&many, "7"), asked{8, k + 2})
	}
	check(t, "All", "many", len(many.All()), n)
}
