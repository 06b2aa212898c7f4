package number

import (
	"math"
	"slices"
	"strconv"
	"strings"
	"testing"

	"bowdler/api"
	"bowdler/every"
	"bowdler/slug"
)

// checkAll holds the numbers of levels against what is wanted.
func checkAll(t *testing.T, levels []int, want []string) {
	t.Helper()
	if got := All(levels...); !slices.Equal(got, want) {
		t.Errorf("All(%.100v): %.100q, not %.100q", levels, got, want)
	}
}

// P1701: what stands in the chapter of All, by examples.
func TestAll(t *testing.T) {
	for _, c := range []struct {
		levels []int
		want   []string
	}{
		{nil, nil},
		{[]int{}, nil},
		{[]int{1, 2, 2, 1, 3}, []string{"1", "1.1", "1.2", "2", "2.1"}},
		{[]int{1}, []string{"1"}},
		{[]int{1, 1, 1}, []string{"1", "2", "3"}},
		{[]int{1, 2, 3, 4, 5, 6}, []string{"1", "1.1", "1.1.1", "1.1.1.1", "1.1.1.1.1", "1.1.1.1.1.1"}},
		{[]int{1, 2, 3, 4, 5, 6, 6, 5, 4, 3, 2, 1}, []string{"1", "1.1", "1.1.1", "1.1.1.1", "1.1.1.1.1", "1.1.1.1.1.1", "1.1.1.1.1.2", "1.1.1.1.2", "1.1.1.2", "1.1.2", "1.2", "2"}},
		// Counts of 0 are left out, and no dot stands for one.
		{[]int{2}, []string{"1"}},
		{[]int{6}, []string{"1"}},
		{[]int{1, 3}, []string{"1", "1.1"}},
		{[]int{1, 6}, []string{"1", "1.1"}},
		{[]int{3, 6}, []string{"1", "1.1"}},
		{[]int{2, 4, 6}, []string{"1", "1.1", "1.1.1"}},
		{[]int{1, 3, 2, 3}, []string{"1", "1.1", "1.1", "1.1.1"}},
		{[]int{3, 2, 3, 1, 3}, []string{"1", "1", "1.1", "1", "1.1"}},
		{[]int{6, 5, 4, 3, 2, 1}, []string{"1", "1", "1", "1", "1", "1"}},
		{[]int{3, 3, 2, 2, 3}, []string{"1", "2", "1", "2", "2.1"}},
		// Those of greater levels begin again, and only those.
		{[]int{1, 2, 2, 1, 2}, []string{"1", "1.1", "1.2", "2", "2.1"}},
		{[]int{1, 2, 3, 2, 3, 3}, []string{"1", "1.1", "1.1.1", "1.2", "1.2.1", "1.2.2"}},
		{[]int{1, 2, 6, 6, 1, 6}, []string{"1", "1.1", "1.1.1", "1.1.2", "2", "2.1"}},
		{[]int{1, 2, 2, 3, 4, 3, 2}, []string{"1", "1.1", "1.2", "1.2.1", "1.2.1.1", "1.2.2", "1.3"}},
		{[]int{2, 1, 2}, []string{"1", "1", "1.1"}},
	} {
		checkAll(t, c.levels, c.want)
	}
}

func wrongLevels() []int {
	return []int{0, 7, -1, -6, 8, 9, 10, 64, 100, 255, 256, 257, -255, 1 << 31, 1<<32 + 1, -1 << 32, math.MaxInt, math.MinInt, math.MinInt + 1}
}

// P1701: levels that are not 1 to 6 have no number, and are as if they were not there.
func TestAllOfWrongLevels(t *testing.T) {
	right := []int{1, 2, 2, 3, 1, 2, 6, 6}
	want := []string{"1", "1.1", "1.2", "1.2.1", "2", "2.1", "2.1.1", "2.1.2"}
	checkAll(t, right, want)
	for _, wrong := range wrongLevels() {
		checkAll(t, []int{wrong}, []string{""})
		checkAll(t, []int{wrong, wrong}, []string{"", ""})
		for at := range len(right) + 1 {
			checkAll(t, slices.Insert(slices.Clone(right), at, wrong), slices.Insert(slices.Clone(want), at, ""))
		}
		var mixed []int
		var blank []string
		for i, level := range right {
			mixed = append(mixed, wrong, level, wrong)
			blank = append(blank, "", want[i], "")
		}
		checkAll(t, mixed, blank)
	}
}

// wantAll says All another way: how often a level came since the last one of a lesser level.
func wantAll(levels []int) []string {
	var want []string
	for i, level := range levels {
		var digits []string
		for k := 1; k <= level && 1 <= level && level <= 6; k++ {
			n := 0
			for _, x := range levels[:i+1] {
				switch {
				case 1 <= x && x < k:
					n = 0
				case x == k:
					n++
				}
			}
			if n != 0 {
				digits = append(digits, strconv.Itoa(n))
			}
		}
		want = append(want, strings.Join(digits, "."))
	}
	return want
}

// P1701: every short list of levels, wrong ones among them.
func TestAllOfAll(t *testing.T) {
	every.Text([]string{"0", "1", "2", "3", "4", "5", "6", "7"}, 6, func(row string) {
		if !t.Failed() {
			levels := levelsOf(row)
			checkAll(t, levels, wantAll(levels))
		}
	})
	every.Text([]string{"0", "1", "2", "6"}, 9, func(row string) {
		if !t.Failed() {
			levels := levelsOf(row)
			checkAll(t, levels, wantAll(levels))
		}
	})
}

func levelsOf(row string) []int {
	var all []int
	for _, d := range row {
		all = append(all, int(d-'0'))
	}
	return all
}

// P1701: numbers of any number of digits, at each level.
func TestAllDigits(t *testing.T) {
	const most = 100_100
	for level := 1; level <= 6; level++ {
		for i, got := range All(slices.Repeat([]int{level}, most)...) {
			if want := strconv.Itoa(i + 1); got != want {
				t.Fatalf("level %d: %q, not %q", level, got, want)
			}
		}
	}
}

// P1701: each count of a number has its own digits, and begins with 1 again.
func TestAllDigitsOfMore(t *testing.T) {
	var levels []int
	var want []string
	for a := 1; a <= 11; a++ {
		levels = append(levels, 1)
		want = append(want, strconv.Itoa(a))
		for b := 1; b <= 101; b++ {
			levels = append(levels, 3)
			want = append(want, strconv.Itoa(a)+"."+strconv.Itoa(b))
			for c := 1; c <= 20; c++ {
				levels = append(levels, 6)
				want = append(want, strconv.Itoa(a)+"."+strconv.Itoa(b)+"."+strconv.Itoa(c))
			}
		}
	}
	got := All(levels...)
	if len(got) != len(want) {
		t.Fatalf("%d numbers, not %d", len(got), len(want))
	}
	for i := range want {
		if got[i] != want[i] {
			t.Fatalf("number %d: %q, not %q", i, got[i], want[i])
		}
	}
}

// checkSections holds the sections of headings against what is wanted.
func checkSections(t *testing.T, h []Heading, want []api.Section) {
	t.Helper()
	if got := Sections(h...); !slices.Equal(got, want) {
		t.Errorf("Sections(%#v): %#v, not %#v", h, got, want)
	}
}

// P1701: what stands in the chapter of Sections, by examples.
func TestSections(t *testing.T) {
	checkSections(t, nil, nil)
	checkSections(t, []Heading{}, nil)
	checkSections(t, []Heading{{1, "A b"}}, []api.Section{{Level: 1, Number: "1", Anchor: "a-b", Text: "A b"}})
	checkSections(t, []Heading{{}}, []api.Section{{Anchor: "section"}})
	checkSections(t,
		[]Heading{{1, "A"}, {2, "B"}, {2, "a"}, {1, "a 2"}, {3, "A!"}},
		[]api.Section{
			{Level: 1, Number: "1", Anchor: "a", Text: "A"},
			{Level: 2, Number: "1.1", Anchor: "b", Text: "B"},
			{Level: 2, Number: "1.2", Anchor: "a-2", Text: "a"},
			{Level: 1, Number: "2", Anchor: "a-2-2", Text: "a 2"},
			{Level: 3, Number: "2.1", Anchor: "a-3", Text: "A!"},
		})
	// A level that is none has an anchor, but no number; its text stands as it is.
	checkSections(t,
		[]Heading{{2, "x"}, {0, " X\n"}, {7, "?"}, {-1, "\xff\x00é"}, {math.MaxInt, ""}, {math.MinInt, "section"}, {2, "x"}, {3, "<b>&"}},
		[]api.Section{
			{Level: 2, Number: "1", Anchor: "x", Text: "x"},
			{Level: 0, Number: "", Anchor: "x-2", Text: " X\n"},
			{Level: 7, Number: "", Anchor: "section", Text: "?"},
			{Level: -1, Number: "", Anchor: "section-2", Text: "\xff\x00é"},
			{Level: math.MaxInt, Number: "", Anchor: "section-3", Text: ""},
			{Level: math.MinInt, Number: "", Anchor: "section-4", Text: "section"},
			{Level: 2, Number: "2", Anchor: "x-3", Text: "x"},
			{Level: 3, Number: "2.1", Anchor: "b", Text: "<b>&"},
		})
	long := strings.Repeat("ab ", 1000)
	checkSections(t,
		[]Heading{{6, long}, {6, long}},
		[]api.Section{
			{Level: 6, Number: "1", Anchor: strings.Repeat("ab-", 13) + "a", Text: long},
			{Level: 6, Number: "2", Anchor: strings.Repeat("ab-", 13) + "a-2", Text: long},
		})
}

// P1701: a heading of a level that is not 1 to 6 is told with that level, without a number, and counts nowhere but among the anchors.
func TestSectionsOfWrongLevels(t *testing.T) {
	for _, wrong := range wrongLevels() {
		checkSections(t,
			[]Heading{{wrong, "a"}, {1, "a"}, {wrong, "b"}, {2, "b"}, {wrong, ""}, {2, "c"}},
			[]api.Section{
				{Level: wrong, Anchor: "a", Text: "a"},
				{Level: 1, Number: "1", Anchor: "a-2", Text: "a"},
				{Level: wrong, Anchor: "b", Text: "b"},
				{Level: 2, Number: "1.1", Anchor: "b-2", Text: "b"},
				{Level: wrong, Anchor: "section"},
				{Level: 2, Number: "1.2", Anchor: "c", Text: "c"},
			})
	}
}

// P1701: every short list of headings, each field by itself.
func TestSectionsOfAll(t *testing.T) {
	headings := []Heading{{1, "a"}, {2, "A"}, {2, "a 2"}, {3, ""}, {0, "a"}, {7, "section"}, {6, "\xff"}}
	every.Text([]string{"0", "1", "2", "3", "4", "5", "6"}, 5, func(row string) {
		if t.Failed() {
			return
		}
		var h []Heading
		var levels []int
		for _, k := range row {
			h = append(h, headings[k-'0'])
			levels = append(levels, headings[k-'0'].Level)
		}
		numbers := wantAll(levels)
		var anchors slug.Anchors
		var want []api.Section
		for i, x := range h {
			want = append(want, api.Section{Level: x.Level, Number: numbers[i], Anchor: anchors.Next(x.Text), Text: x.Text})
		}
		checkSections(t, h, want)
	})
}

// P1701: a call counts by itself; what is handed in stays, and what was told, too.
func TestOwn(t *testing.T) {
	levels := []int{1, 2, 9, 2}
	first := All(levels...)
	if !slices.Equal(levels, []int{1, 2, 9, 2}) {
		t.Errorf("levels: %v", levels)
	}
	second := All(levels...)
	second[0] = "x"
	if want := []string{"1", "1.1", "", "1.2"}; !slices.Equal(first, want) {
		t.Errorf("numbers: %q, not %q", first, want)
	}
	checkAll(t, levels, []string{"1", "1.1", "", "1.2"})

	h := []Heading{{1, "a"}, {2, "a"}}
	want := []api.Section{{Level: 1, Number: "1", Anchor: "a", Text: "a"}, {Level: 2, Number: "1.1", Anchor: "a-2", Text: "a"}}
	told := Sections(h...)
	if !slices.Equal(h, []Heading{{1, "a"}, {2, "a"}}) {
		t.Errorf("headings: %#v", h)
	}
	Sections(h...)[0].Text = "x"
	h[0].Text = "y"
	if !slices.Equal(told, want) {
		t.Errorf("sections: %#v, not %#v", told, want)
	}
	checkSections(t, []Heading{{1, "a"}, {2, "a"}}, want)
}

// P1701: long lists, too, take time by what is told.
func TestLong(t *testing.T) {
	const n = 1 << 20
	levels := make([]int, n)
	h := make([]Heading, n)
	for i := range n {
		levels[i] = i%6 + 1
		h[i] = Heading{levels[i], "a"}
	}
	numbers := All(levels...)
	sections := Sections(h...)
	for i := range n {
		want := strconv.Itoa(i/6+1) + strings.Repeat(".1", i%6)
		anchor := "a"
		if i > 0 {
			anchor += "-" + strconv.Itoa(i+1)
		}
		if numbers[i] != want || sections[i] != (api.Section{Level: levels[i], Number: want, Anchor: anchor, Text: "a"}) {
			t.Fatalf("%d: %q and %#v, not %q and %q", i, numbers[i], sections[i], want, anchor)
		}
	}
}
