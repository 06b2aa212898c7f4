package flank

import (
	"math"
	"strings"
	"testing"
	"unicode/utf8"

	"bowdler/every"
)

// around is Around said another way: all runes of the text are cut first, and told by where they begin and end.
func around(s string, from, to int) (before, after rune) {
	begins, ends := map[int]rune{}, map[int]rune{}
	for i := 0; i < len(s); {
		r, size := utf8.DecodeRuneInString(s[i:])
		if s[i] == 0 {
			r = 97
		}
		begins[i], ends[i+size] = r, r
		i += size
	}
	before, after = 10, 10
	if r, is := ends[from]; is {
		before = r
	}
	if r, is := begins[to]; is {
		after = r
	}
	return before, after
}

func checkAround(t *testing.T, s string, from, to int, before, after rune) {
	t.Helper()
	if b, a := Around(s, from, to); b != before || a != after {
		t.Errorf("Around(%.100q, %d, %d): %q and %q, not %q and %q", s, from, to, b, a, before, after)
	}
}

// P1301: Around, by examples.
func TestAround(t *testing.T) {
	for _, c := range []struct {
		s             string
		from, to      int
		before, after rune
	}{
		{"a*b", 1, 2, 'a', 'b'},
		{"a**b", 1, 3, 'a', 'b'},
		{"ab", 1, 1, 'a', 'b'},
		{"a *b", 2, 3, ' ', 'b'},
		{"é*😀", 2, 3, 'é', '😀'},
		{"😀€*", 7, 8, '€', '\n'},
		{"a\nb*\tc", 2, 2, '\n', 'b'},
		// What is around does not hang on which place is ahead.
		{"a*b", 2, 1, '*', '*'},
		{"a*b", 3, 0, 'b', 'a'},
		// The ends of the text.
		{"", 0, 0, '\n', '\n'},
		{"*", 0, 1, '\n', '\n'},
		{"*a", 0, 1, '\n', 'a'},
		{"a*", 1, 2, 'a', '\n'},
		// A zero.
		{"\x00*\x00", 1, 2, 'a', 'a'},
		{"\x0012\x00*\x003\x00", 4, 5, 'a', 'a'},
		{"b\x00", 2, 1, 'a', 'a'},
		{"é\x00é", 2, 3, 'é', 'é'},
		{"é\x00é", 3, 2, 'a', 'a'},
		// Bytes that are no part of a rune, and the sign that stands for them.
		{"\xff*\xff", 1, 2, '\ufffd', '\ufffd'},
		{"\xc3*\xa9", 1, 2, '\ufffd', '\ufffd'},
		{"\ufffd*\ufffd", 3, 4, '\ufffd', '\ufffd'},
		{"\xa9\xa9\xa9\xa9\xa9é", 5, 5, '\ufffd', 'é'},
		{"é\xa9", 2, 2, 'é', '\ufffd'},
		{"é\xa9", 3, 3, '\ufffd', '\n'},
		{"😀\x80\x80😀", 4, 6, '😀', '😀'},
		{"\xed\xa0\x80*", 3, 0, '\ufffd', '\ufffd'}, // a surrogate
		{"\xc0\x80*", 2, 1, '\ufffd', '\ufffd'},     // a zero in two bytes
		// Within a rune none ends, and none begins.
		{"é", 1, 1, '\n', '\n'},
		{"aéb", 2, 2, '\n', '\n'},
		{"€", 2, 1, '\n', '\n'},
		{"😀", 3, 2, '\n', '\n'},
		{"a😀b", 4, 2, '\n', '\n'},
		// Wrong places.
		{"ab", -1, 3, '\n', '\n'},
		{"ab", 3, -1, '\n', '\n'},
		{"ab", 1, 3, 'a', '\n'},
		{"ab", -1, 1, '\n', 'b'},
		{"", 1, -1, '\n', '\n'},
		{"ab", math.MaxInt, math.MinInt, '\n', '\n'},
		{"ab", math.MinInt, math.MaxInt, '\n', '\n'},
		{"ab", math.MaxInt - 3, math.MaxInt - 4, '\n', '\n'},
	} {
		checkAround(t, c.s, c.from, c.to, c.before, c.after)
	}
}

// P1301: Around at all places of every short text of awkward pieces, and at some that it does not have.
func TestAroundOfAll(t *testing.T) {
	pieces := []string{"a", "*", "\x00", "\n", "é", "€", "😀", "\xf0", "\xe2", "\xc3", "\xa9", "\x9f"}
	every.Text(pieces, 4, func(s string) {
		for at := -2; at <= len(s)+2; at++ {
			before, after := around(s, at, at)
			if b, a := Around(s, at, at); b != before || a != after {
				t.Fatalf("Around(%q, %d, %d): %q and %q, not %q and %q", s, at, at, b, a, before, after)
			}
		}
	})
}

// P1301: Around of every two places.
func TestAroundOfTwoPlaces(t *testing.T) {
	pieces := []string{"a", "_", "\x00", "é", "😀", "\xff", "\x98"}
	every.Text(pieces, 3, func(s string) {
		for from := -1; from <= len(s)+1; from++ {
			for to := -1; to <= len(s)+1; to++ {
				before, after := around(s, from, to)
				checkAround(t, s, from, to, before, after)
			}
		}
	})
}

// P1301: Around of every rune, on both sides.
func TestAroundOfEachRune(t *testing.T) {
	for r := rune(1); r <= utf8.MaxRune; r++ {
		s, want := string(r)+"*"+string(r), r
		if !utf8.ValidRune(r) {
			want = utf8.RuneError
		}
		size := utf8.RuneLen(want)
		if b, a := Around(s, size, size+1); b != want || a != want {
			t.Fatalf("Around(%q, %d, %d): %q and %q", s, size, size+1, b, a)
		}
	}
}

func TestAroundOfEachByte(t *testing.T) {
	for b := range 256 {
		want := rune(b)
		if b == 0 {
			want = 'a'
		} else if b > 127 {
			want = '\ufffd'
		}
		sign := string([]byte{byte(b)})
		checkAround(t, sign+"*"+sign, 1, 2, want, want)
	}
}

// P1301: the places of a long text, each by itself, in time that does not go by the length of the text.
func TestAroundOfLong(t *testing.T) {
	for _, piece := range []string{"a*", "é", "\x80", "😀\x80", "\xf0"} {
		s := strings.Repeat(piece, 1<<17)
		short := strings.Repeat(piece, 16)
		middle := len(piece) * 8
		for at := len(s) / 2; at < len(s)/2+1<<16; at++ {
			like := middle + (at-len(s)/2)%len(piece)
			before, after := around(short, like, like)
			if b, a := Around(s, at, at); b != before || a != after {
				t.Fatalf("Around of a long text of %q, at %d: %q and %q, not %q and %q", piece, at, b, a, before, after)
			}
		}
	}
}

const (
	blanks = "\t\n\f\r \u00a0\u1680\u2000\u2001\u2002\u2003\u2004\u2005\u2006\u2007\u2008\u2009\u200a\u202f\u205f\u3000"
	signs  = "!\"#$%&'()*+,-./:;<=>?@[\\]^_`{|}~¡§«¶·»¿€\u2010\u2014\u2019\u2026\u2027\u2030\u2043\u3001\u3011"
	others = "aZ09éß\x00\v\x7f\u0085\u200b\u2028\u202e\u2044\u3012\ufffd😀"
)

// kind tells which of the three kinds a rune is of: blanks 0, signs 1, others 2.
func kind(r rune) int {
	switch {
	case strings.ContainsRune(blanks, r):
		return 0
	case strings.ContainsRune(signs, r):
		return 1
	}
	return 2
}

// wrongRunes are numbers that stand for no rune.
func wrongRunes() []rune {
	return []rune{-1, math.MinInt32, math.MinInt32 + 32, math.MinInt32 + '*', 0xd800, 0x110000 + 32, 0x110000 + '*', math.MaxInt32}
}

// pairs calls f with every two runes of all kinds.
func pairs(f func(before, after rune)) {
	all := append([]rune(blanks+signs+others), wrongRunes()...)
	for _, before := range all {
		for _, after := range all {
			f(before, after)
		}
	}
}

// Rows are the kind ahead, columns the kind behind.
var (
	left       = [3][3]bool{{false, true, true}, {false, true, true}, {false, false, true}}
	right      = [3][3]bool{{false, false, false}, {true, true, false}, {true, true, true}}
	underOpen  = [3][3]bool{{false, true, true}, {false, true, true}, {false, false, false}}
	underClose = [3][3]bool{{false, false, false}, {true, true, false}, {true, true, false}}
)

func checkFlank(t *testing.T, name string, got bool, want [3][3]bool, before, after rune) {
	t.Helper()
	if got != want[kind(before)][kind(after)] {
		t.Errorf("%s(%q, %q): %v", name, before, after, got)
	}
}

// P1301: Left and Right of every two runes, by their kinds.
func TestLeftAndRight(t *testing.T) {
	pairs(func(before, after rune) {
		checkFlank(t, "Left", Left(before, after), left, before, after)
		checkFlank(t, "Right", Right(before, after), right, before, after)
		if Right(before, after) != Left(after, before) {
			t.Errorf("Right(%q, %q) is not Left of them turned around", before, after)
		}
	})
}

// P1301: Opens and Closes of stars and underscores, by the kinds of the runes.
func TestOpensAndCloses(t *testing.T) {
	pairs(func(before, after rune) {
		checkFlank(t, "Opens of *", Opens('*', before, after), left, before, after)
		checkFlank(t, "Closes of *", Closes('*', before, after), right, before, after)
		checkFlank(t, "Opens of _", Opens('_', before, after), underOpen, before, after)
		checkFlank(t, "Closes of _", Closes('_', before, after), underClose, before, after)
	})
}

// P1301: of other signs none opens, none closes.
func TestOtherSigns(t *testing.T) {
	pairs(func(before, after rune) {
		for b := range 256 {
			if sign := byte(b); sign != '*' && sign != '_' && (Opens(sign, before, after) || Closes(sign, before, after)) {
				t.Errorf("%q opens or closes between %q and %q", sign, before, after)
			}
		}
	})
}

// P1301: what texts that are read by hand have.
func TestRows(t *testing.T) {
	for _, c := range []struct {
		s             string
		from, to      int
		opens, closes bool
	}{
		{"*a*", 0, 1, true, false},
		{"*a*", 2, 3, false, true},
		{"a * b", 2, 3, false, false},
		{"a*b", 1, 2, true, true},
		{"a_b", 1, 2, false, false},
		{"a__b", 1, 3, false, false},
		{"(_a_)", 1, 2, true, false},
		{"(_a_)", 3, 4, false, true},
		{"a_(b)", 1, 2, false, true},
		{"(b)_a", 3, 4, true, false},
		{"(_)", 1, 2, true, true},
		{"a*\"b\"", 1, 2, false, true},
		{"\"a\"*b", 3, 4, true, false},
		{"*\u00a0a", 0, 1, false, false},
		{"€*a", 3, 4, true, false},
		// An atom counts as a word.
		{"\x000\x00_b", 3, 4, false, false},
		{"\x000\x00*\x001\x00", 3, 4, true, true},
		{"_\x000\x00_", 0, 1, true, false},
		{"_\x000\x00_", 4, 5, false, true},
	} {
		before, after := Around(c.s, c.from, c.to)
		if got := Opens(c.s[c.from], before, after); got != c.opens {
			t.Errorf("the row at %d of %q opens: %v", c.from, c.s, got)
		}
		if got := Closes(c.s[c.from], before, after); got != c.closes {
			t.Errorf("the row at %d of %q closes: %v", c.from, c.s, got)
		}
	}
}
