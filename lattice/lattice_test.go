package lattice

import (
	"math"
	"math/bits"
	"slices"
	"testing"

	"bowdler/api"
)

// made is a lattice that must be one.
func made(t *testing.T, n int, below ...[2]int) *Lattice {
	t.Helper()
	l, e := New(n, below...)
	if l == nil || e != api.OK {
		t.Fatalf("New(%d, %v): %d", n, below, e)
	}
	return l
}

// checkNone holds that New tells this error, and nothing else.
func checkNone(t *testing.T, want api.Errno, n int, below ...[2]int) {
	t.Helper()
	if l, e := New(n, below...); l != nil || e != want {
		t.Errorf("New(%d, %v): %v, %d, not %d", n, below, l != nil, e, want)
	}
}

// chain are the pairs of levels, each below the next.
func chain(levels ...int) [][2]int {
	var below [][2]int
	for i := 1; i < len(levels); i++ {
		below = append(below, [2]int{levels[i-1], levels[i]})
	}
	return below
}

// upTo are the first n levels.
func upTo(n int) []int {
	var levels []int
	for k := range n {
		levels = append(levels, k)
	}
	return levels
}

// diamond has two levels between two.
func diamond() [][2]int { return [][2]int{{0, 1}, {0, 2}, {1, 3}, {2, 3}} }

// P501: the example of the chapter, all its answers.
func TestDiamond(t *testing.T) {
	l := made(t, 4, diamond()...)
	join := [4][4]int{{0, 1, 2, 3}, {1, 1, 3, 3}, {2, 3, 2, 3}, {3, 3, 3, 3}}
	meet := [4][4]int{{0, 0, 0, 0}, {0, 1, 0, 1}, {0, 0, 2, 2}, {0, 1, 2, 3}}
	leq := [4][4]bool{{true, true, true, true}, {false, true, false, true}, {false, false, true, true}, {false, false, false, true}}
	for a := range 4 {
		for b := range 4 {
			if l.Join(a, b) != join[a][b] || l.Meet(a, b) != meet[a][b] || l.Leq(a, b) != leq[a][b] {
				t.Errorf("of %d, %d: %d, %d, %v", a, b, l.Join(a, b), l.Meet(a, b), l.Leq(a, b))
			}
		}
	}
	if l.Top() != 3 || l.Bottom() != 0 || l.Len() != 4 {
		t.Errorf("the whole: %d, %d, %d", l.Top(), l.Bottom(), l.Len())
	}
}

// P501: one level alone.
func TestOne(t *testing.T) {
	for _, l := range []*Lattice{made(t, 1), made(t, 1, [2]int{0, 0}), made(t, 1, [][2]int{{0, 0}, {0, 0}}...)} {
		if l.Len() != 1 || l.Top() != 0 || l.Bottom() != 0 || l.Join(0, 0) != 0 || l.Meet(0, 0) != 0 || !l.Leq(0, 0) {
			t.Error("one level is not the greatest and the least one")
		}
	}
}

// P501: numbers of levels, and indices, that may not be. They count ahead of what the order is.
func TestNewOfWrong(t *testing.T) {
	for _, n := range []int{0, -1, 65, 66, 128, 1 << 32, math.MinInt, math.MaxInt} {
		checkNone(t, api.ErrArg, n)
		checkNone(t, api.ErrArg, n, [2]int{0, 0})
		checkNone(t, api.ErrArg, n, chain(upTo(64)...)...)
	}
	for _, bad := range []int{-1, 2, 3, 63, 64, 65, 1 << 32, math.MinInt, math.MaxInt} {
		for _, pair := range [][2]int{{0, bad}, {bad, 0}, {bad, bad}} {
			checkNone(t, api.ErrArg, 2, pair)
			checkNone(t, api.ErrArg, 2, [2]int{0, 1}, pair)
			checkNone(t, api.ErrArg, 2, pair, [2]int{0, 1})
			checkNone(t, api.ErrArg, 2, [2]int{0, 1}, [2]int{1, 0}, pair)
		}
	}
	checkNone(t, api.ErrArg, 64, append(chain(upTo(64)...), [2]int{63, 64})...)
}

// P501: orders that are no lattices.
func TestNewOfNoLattice(t *testing.T) {
	for _, c := range []struct {
		n     int
		below [][2]int
	}{
		// Two that have nothing above them, or below them.
		{2, nil},
		{64, nil},
		{3, [][2]int{{0, 1}, {0, 2}}},
		{3, [][2]int{{1, 0}, {2, 0}}},
		{4, [][2]int{{0, 1}, {2, 3}}},
		{5, append(diamond(), [2]int{4, 3})},
		{5, append(diamond(), [2]int{0, 4})},
		// Rings.
		{2, [][2]int{{0, 1}, {1, 0}}},
		{3, chain(0, 1, 2, 0)},
		{4, append(diamond(), [2]int{3, 0})},
		{4, append(diamond(), [][2]int{{1, 2}, {2, 1}}...)},
		{64, append(chain(upTo(64)...), [2]int{63, 0})},
		// Two that have several above them, or below them, and none of these is the nearest.
		{6, [][2]int{{0, 1}, {0, 2}, {1, 3}, {1, 4}, {2, 3}, {2, 4}, {3, 5}, {4, 5}}},
		{6, [][2]int{{5, 4}, {5, 3}, {4, 2}, {4, 1}, {3, 2}, {3, 1}, {2, 0}, {1, 0}}},
		{8, [][2]int{{0, 1}, {0, 2}, {0, 3}, {1, 4}, {1, 5}, {2, 5}, {2, 4}, {3, 5}, {3, 6}, {4, 7}, {5, 7}, {6, 7}}},
	} {
		checkNone(t, api.ErrPolicy, c.n, c.below...)
	}
}

// P501: two long chains beside each other: all is a lattice only with both ends.
func TestLongSides(t *testing.T) {
	left, right := chain(upTo(32)...), chain(upTo(64)[32:]...)
	both := append(slices.Clone(left), right...)
	checkNone(t, api.ErrPolicy, 64, both...)
	checkNone(t, api.ErrPolicy, 64, append(both, [2]int{0, 32})...)
	checkNone(t, api.ErrPolicy, 64, append(both, [2]int{63, 31})...)
	l := made(t, 64, append(both, [][2]int{{0, 32}, {63, 31}}...)...)
	if l.Join(1, 63) != 31 || l.Join(1, 32) != 31 || l.Meet(63, 30) != 0 || l.Leq(1, 63) || !l.Leq(32, 31) || l.Top() != 31 || l.Bottom() != 0 {
		t.Error("two chains with both ends")
	}
}

// checkWhole holds all answers of a lattice against what is wanted of each two.
func checkWhole(t *testing.T, l *Lattice, n int, leq func(a, b int) bool, join, meet func(a, b int) int) {
	t.Helper()
	if l.Len() != n {
		t.Errorf("Len: %d, not %d", l.Len(), n)
	}
	for a := range n {
		for b := range n {
			if l.Leq(a, b) != leq(a, b) || l.Join(a, b) != join(a, b) || l.Meet(a, b) != meet(a, b) {
				t.Fatalf("of %d, %d: %v, %d, %d", a, b, l.Leq(a, b), l.Join(a, b), l.Meet(a, b))
			}
		}
		if !l.Leq(a, l.Top()) || !l.Leq(l.Bottom(), a) {
			t.Fatalf("%d is not between %d and %d", a, l.Bottom(), l.Top())
		}
	}
}

// P501, P502: chains of each length, and the sets of six things.
func TestGreatOnes(t *testing.T) {
	leq := func(a, b int) bool { return a <= b }
	for n := 1; n <= api.MaxLevels; n++ {
		below := chain(upTo(n)...)
		checkWhole(t, made(t, n, below...), n, leq, func(a, b int) int { return max(a, b) }, func(a, b int) int { return min(a, b) })
		slices.Reverse(below)
		checkWhole(t, made(t, n, below...), n, leq, func(a, b int) int { return max(a, b) }, func(a, b int) int { return min(a, b) })
	}
	var below [][2]int
	for a := range 64 {
		for b := range 64 {
			if a&b == a && bits.OnesCount(uint(a^b)) == 1 {
				below = append(below, [2]int{a, b})
			}
		}
	}
	sets := made(t, 64, below...)
	checkWhole(t, sets, 64, func(a, b int) bool { return a&b == a }, func(a, b int) int { return a | b }, func(a, b int) int { return a & b })
	if sets.Top() != 63 || sets.Bottom() != 0 {
		t.Errorf("of sets: %d, %d", sets.Top(), sets.Bottom())
	}
}

// P501: the levels need not be in order, nor the pairs, and pairs may come twice or tell what others tell already.
func TestPairs(t *testing.T) {
	for _, below := range [][][2]int{
		chain(3, 1, 4, 0, 2),
		{{0, 2}, {4, 0}, {1, 4}, {3, 1}},
		{{1, 4}, {0, 2}, {3, 1}, {4, 0}, {1, 4}, {1, 4}},
		append(chain(3, 1, 4, 0, 2), [][2]int{{3, 2}, {1, 0}, {3, 3}, {2, 2}}...),
		slices.Repeat(chain(3, 1, 4, 0, 2), 1<<12),
	} {
		l := made(t, 5, below...)
		if l.Top() != 2 || l.Bottom() != 3 || !l.Leq(3, 2) || l.Leq(2, 3) || l.Join(1, 0) != 0 || l.Meet(1, 0) != 1 {
			t.Errorf("a chain by %v", below)
		}
	}
}

// P501: indices that may not be, and none at all.
func TestNone(t *testing.T) {
	l, most := made(t, 4, diamond()...), made(t, 64, chain(upTo(64)...)...)
	for _, bad := range []int{-1, -2, -64, 64, 65, 128, 1 << 32, math.MinInt, math.MaxInt} {
		for _, of := range []*Lattice{l, most} {
			for _, pair := range [][2]int{{bad, 0}, {0, bad}, {bad, bad}, {bad, 3}, {3, bad}} {
				checkNothing(t, of, pair[0], pair[1])
			}
		}
	}
	checkNothing(t, l, 0, 4)
	checkNothing(t, l, 4, 0)
	checkNothing(t, l, 63, 3)
	for _, of := range []*Lattice{nil, {}} {
		for a := -1; a < 3; a++ {
			for b := -1; b < 3; b++ {
				checkNothing(t, of, a, b)
			}
		}
		if of.Len() != 0 || of.Top() != -1 || of.Bottom() != -1 {
			t.Errorf("of none: %d, %d, %d", of.Len(), of.Top(), of.Bottom())
		}
	}
}

// checkNothing holds that two indices are told nothing of.
func checkNothing(t *testing.T, l *Lattice, a, b int) {
	t.Helper()
	if l.Leq(a, b) || l.Join(a, b) != -1 || l.Meet(a, b) != -1 {
		t.Errorf("of %d, %d: %v, %d, %d", a, b, l.Leq(a, b), l.Join(a, b), l.Meet(a, b))
	}
}

// P501: nothing is written into the pairs, and the lattice does not hang on them afterwards.
func TestPairsAreLeft(t *testing.T) {
	below := diamond()
	l := made(t, 4, below...)
	if !slices.Equal(below, diamond()) {
		t.Errorf("New wrote into it: %v", below)
	}
	for i := range below {
		below[i] = [2]int{3, 0}
	}
	if l.Join(1, 2) != 3 || l.Meet(1, 2) != 0 || l.Leq(3, 0) {
		t.Error("the lattice hangs on the list that it was made of")
	}
}

// comes tells whether a comes to b by pairs: the chapter's words, step by step.
func comes(n int, below [][2]int, a, b int) bool {
	reached := make([]bool, n)
	work := []int{a}
	for len(work) > 0 {
		at := work[0]
		work = work[1:]
		if reached[at] {
			continue
		}
		reached[at] = true
		for _, pair := range below {
			if pair[0] == at {
				work = append(work, pair[1])
			}
		}
	}
	return reached[b]
}

// nearest is the one of n levels that is over a and b, and that is under all such; -1, if there is none.
func nearest(n, a, b int, over func(x, y int) bool) int {
	for x := range n {
		fits := over(a, x) && over(b, x)
		for y := range n {
			if over(a, y) && over(b, y) && !over(x, y) {
				fits = false
			}
		}
		if fits {
			return x
		}
	}
	return -1
}

// described says New another way.
func described(n int, below [][2]int) bool {
	leq := func(a, b int) bool { return comes(n, below, a, b) }
	geq := func(a, b int) bool { return comes(n, below, b, a) }
	for a := range n {
		for b := range n {
			if a != b && leq(a, b) && leq(b, a) || nearest(n, a, b, leq) < 0 || nearest(n, a, b, geq) < 0 {
				return false
			}
		}
	}
	return true
}

// checkDescribed holds New, and all calls of what it makes, against the same said another way.
func checkDescribed(t *testing.T, n int, below [][2]int) bool {
	t.Helper()
	if !described(n, below) {
		checkNone(t, api.ErrPolicy, n, below...)
		return false
	}
	l := made(t, n, below...)
	leq := func(a, b int) bool { return comes(n, below, a, b) }
	geq := func(a, b int) bool { return comes(n, below, b, a) }
	checkWhole(t, l, n, leq, func(a, b int) int { return nearest(n, a, b, leq) }, func(a, b int) int { return nearest(n, a, b, geq) })
	checkOrder(t, l)
	return true
}

// checkOrder holds P502 of each two.
func checkOrder(t *testing.T, l *Lattice) {
	t.Helper()
	for a := range l.Len() {
		for b := range l.Len() {
			if l.Join(a, b) != l.Join(b, a) || l.Meet(a, b) != l.Meet(b, a) || l.Leq(a, b) != (l.Join(a, b) == b) || l.Leq(a, b) != (l.Meet(a, b) == a) {
				t.Errorf("of %d, %d, and the other way round", a, b)
			}
		}
	}
}

// P501, P502: all sets of pairs of up to three levels, a level with itself too, and of four without.
func TestAllPairs(t *testing.T) {
	for n := 1; n <= 4; n++ {
		var all [][2]int
		for a := range n {
			for b := range n {
				if n < 4 || a != b {
					all = append(all, [2]int{a, b})
				}
			}
		}
		found := 0
		for chosen := range 1 << len(all) {
			var below [][2]int
			for i, pair := range all {
				if chosen>>i&1 != 0 {
					below = append(below, pair)
				}
			}
			if checkDescribed(t, n, below) {
				found++
			}
		}
		if found == 0 {
			t.Errorf("no lattice of %d levels", n)
		}
	}
}

// P501, P502: sets of upward pairs of six levels, most of them with a least and a greatest one: only here may two have several above them, and none the nearest.
func TestUpwardPairs(t *testing.T) {
	var all [][2]int
	for a := range 6 {
		for b := range a {
			all = append(all, [2]int{b, a})
		}
	}
	found := 0
	for chosen := range 1 << len(all) {
		below := [][2]int{{0, 1}, {0, 2}, {3, 5}, {4, 5}}
		for i, pair := range all {
			if chosen>>i&1 != 0 {
				below = append(below, pair)
			}
		}
		if chosen%7 == 0 && checkDescribed(t, 6, below) {
			found++
		}
	}
	if found == 0 {
		t.Error("no lattice of six levels")
	}
}
