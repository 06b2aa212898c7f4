package repair

import (
	"math"
	"strings"
	"testing"
	"unicode/utf8"

	"bowdler/every"
)

// P101: what stands in the chapter of Text, by examples.
func TestText(t *testing.T) {
	for _, c := range []struct{ in, want string }{
		{"", ""},
		{"plain text\n", "plain text\n"},
		{"tab\tblank \v\f\x7f", "tab\tblank \v\f\x7f"},
		{"äöü ß € 😀 \u00a0\u2028", "äöü ß € 😀 \u00a0\u2028"},
		// A zero.
		{"\x00", "\ufffd"},
		{"a\x00\x00b", "a\ufffd\ufffdb"},
		// Ends of lines.
		{"\r", "\n"},
		{"\r\n", "\n"},
		{"a\r\nb\rc\nd", "a\nb\nc\nd"},
		{"\r\r\n", "\n\n"},
		{"\r\n\r\n", "\n\n"},
		{"\r\n\n", "\n\n"},
		{"\n\r", "\n\n"},
		{"\r\x00\n", "\n\ufffd\n"},
		{"\r\xff\n", "\n\ufffd\n"},
		{"\r \n", "\n \n"},
		// Bytes that are no part of a rune, each by itself.
		{"\xff", "\ufffd"},
		{"\xff\xfe", "\ufffd\ufffd"},
		{"\x80x", "\ufffdx"},
		{"\xc3", "\ufffd"},
		{"\xc3(", "\ufffd("},
		{"\xc3\xc3\xa4", "\ufffdä"},
		{"\xe2\x82", "\ufffd\ufffd"},
		{"\xe2\x82\xac\xac", "€\ufffd"},
		{"\xf0\x9f\x98", "\ufffd\ufffd\ufffd"},
		{"\xf0\x9f\x98\r\n", "\ufffd\ufffd\ufffd\n"},
		{"\xc0\x80", "\ufffd\ufffd"},                      // a zero in two bytes
		{"\xed\xa0\x80", "\ufffd\ufffd\ufffd"},            // a surrogate
		{"\xf4\x90\x80\x80", strings.Repeat("\ufffd", 4)}, // above 10FFFF
		{"\xf4\x8f\xbf\xbf", "\U0010ffff"},
		// The sign itself is a rune like others.
		{"a\ufffdb", "a\ufffdb"},
	} {
		if got := Text(c.in); got != c.want {
			t.Errorf("Text(%q): %q, not %q", c.in, got, c.want)
		}
	}
}

// P101: Text of every short text of awkward bytes, against the same said another way.
func TestTextOfAll(t *testing.T) {
	pieces := []string{"a", "\x00", "\r", "\n", "\xc3", "\xa4", "\xe2", "\x82", "\xac", "\xff"}
	every.Text(pieces, 5, func(s string) {
		want := string([]rune(s))
		want = strings.ReplaceAll(want, "\r\n", "\n")
		want = strings.ReplaceAll(want, "\r", "\n")
		want = strings.ReplaceAll(want, "\x00", "\ufffd")
		got := Text(s)
		if got != want {
			t.Fatalf("Text(%q): %q, not %q", s, got, want)
		}
		if !utf8.ValidString(got) || strings.ContainsAny(got, "\x00\r") {
			t.Fatalf("Text(%q): %q is no text", s, got)
		}
		if Text(got) != got {
			t.Fatalf("Text of Text(%q) is another one", s)
		}
	})
}

func TestTextOfEachByte(t *testing.T) {
	for b := range 256 {
		want := string(rune(b))
		if b == 0 || b > 127 {
			want = "\ufffd"
		} else if b == '\r' {
			want = "\n"
		}
		if got := Text(string([]byte{byte(b)})); got != want {
			t.Errorf("Text of the byte %d: %q, not %q", b, got, want)
		}
	}
}

// wrongRunes are numbers that stand for no rune, some of them with the low byte of a blank or a sign.
func wrongRunes() []rune {
	return []rune{-1, -224, -223, math.MinInt32, math.MinInt32 + 32, math.MinInt32 + 33, 0x110000 + 32, 0x110000 + 33, math.MaxInt32}
}

// told are the runes, from -1 on, of which is answers true.
func told(is func(rune) bool) map[rune]bool {
	all := map[rune]bool{}
	for r := rune(-300); r <= utf8.MaxRune+300; r++ {
		if is(r) {
			all[r] = true
		}
	}
	return all
}

// span are the runes from one to another.
func span(from, to rune) []rune {
	var all []rune
	for r := from; r <= to; r++ {
		all = append(all, r)
	}
	return all
}

// checkRunes holds what is answers of all runes against a list.
func checkRunes(t *testing.T, name string, is func(rune) bool, lists ...[]rune) {
	t.Helper()
	got := told(is)
	for _, list := range lists {
		for _, r := range list {
			if !got[r] {
				t.Errorf("%s(%d): false", name, r)
			}
			delete(got, r)
		}
	}
	for r := range got {
		t.Errorf("%s(%d): true", name, r)
	}
	for _, r := range wrongRunes() {
		if is(r) {
			t.Errorf("%s(%d): true", name, r)
		}
	}
}

const signs = "!\"#$%&'()*+,-./:;<=>?@[\\]^_`{|}~"

// P101: Space of all runes.
func TestSpace(t *testing.T) {
	checkRunes(t, "Space", Space,
		[]rune{'\t', '\n', '\f', '\r', ' ', 0xa0, 0x1680, 0x202f, 0x205f, 0x3000},
		span(0x2000, 0x200a))
}

// P101: Punct of all runes.
func TestPunct(t *testing.T) {
	checkRunes(t, "Punct", Punct,
		[]rune(signs),
		[]rune{'¡', '§', '«', '¶', '·', '»', '¿', '€'},
		span(0x2010, 0x2027), span(0x2030, 0x2043), span(0x3001, 0x3011))
}

// P101: Ascii of all bytes.
func TestAscii(t *testing.T) {
	if len(signs) != 32 {
		t.Fatalf("%d signs", len(signs))
	}
	for b := range 256 {
		want := strings.IndexByte(signs, byte(b)) >= 0
		if got := Ascii(byte(b)); got != want {
			t.Errorf("Ascii(%d): %v", b, got)
		}
	}
}

// P102: what stands in the chapter of Fold, by examples.
func TestFold(t *testing.T) {
	for _, c := range []struct{ in, want string }{
		{"  Ä b", "ä b"},
		{"", ""},
		{" ", ""},
		{"\t\n\f\r \u00a0\u1680\u2000\u200a\u202f\u205f\u3000", ""},
		{"a", "a"},
		{"Ab", "ab"},
		{" a ", "a"},
		{"\u3000a\u00a0", "a"},
		{"a b", "a b"},
		{"a  b", "a b"},
		{"a\tb\nc\r\nd", "a b c d"},
		{"a \u2003\t b", "a b"},
		{"A\u00a0B", "a b"},
		// What only looks like a blank is none.
		{"a\vb", "a\vb"},
		{"\v", "\v"},
		{"a\u200bb\u0085c\u2028d", "a\u200bb\u0085c\u2028d"},
		{"\x00 \x00", "\x00 \x00"},
		// Letters that have no small one here.
		{"@AZ[", "@az["},
		{"`az{", "`az{"},
		{"¿ÀÖ×ØÞß", "¿àö×øþß"},
		{"àö÷øþÿ", "àö÷øþÿ"},
		{"ŁΑЖẞİ", "ŁΑЖẞİ"},
		// Bytes that are no part of a rune.
		{"\xff", "\xff"},
		{" \xffA\xc3 ", "\xffa\xc3"},
		{"\xc3 \x84", "\xc3 \x84"},
		{"\xc4\xd6\xdc", "\xc4\xd6\xdc"}, // great letters of another coding
		{"\xa0\x85", "\xa0\x85"},
		{"\xe2\x80", "\xe2\x80"},
		{"\xed\xa0\x80", "\xed\xa0\x80"},
		{"\ufffd\xff\ufffd", "\ufffd\xff\ufffd"},
		{"\xef\xbf", "\xef\xbf"},
		{"\xef\xbf \xbd", "\xef\xbf \xbd"},
	} {
		if got := Fold(c.in); got != c.want {
			t.Errorf("Fold(%q): %q, not %q", c.in, got, c.want)
		}
	}
}

// P102: Fold of every rune by itself, between two letters.
func TestFoldOfEachRune(t *testing.T) {
	const (
		great = "ABCDEFGHIJKLMNOPQRSTUVWXYZÀÁÂÃÄÅÆÇÈÉÊËÌÍÎÏÐÑÒÓÔÕÖØÙÚÛÜÝÞ"
		small = "abcdefghijklmnopqrstuvwxyzàáâãäåæçèéêëìíîïðñòóôõöøùúûüýþ"
	)
	letters := map[rune]rune{}
	to := []rune(small)
	for i, r := range []rune(great) {
		letters[r] = to[i]
	}
	for r := rune(0); r <= utf8.MaxRune; r++ {
		want := r
		if Space(r) {
			want = ' '
		} else if s, ok := letters[r]; ok {
			want = s
		}
		if got := Fold("x" + string(r) + "y"); got != "x"+string(want)+"y" {
			t.Errorf("Fold of the rune %d: %q", r, got)
		}
	}
}

// P102: Fold of every short text of awkward pieces, against the same said another way.
func TestFoldOfAll(t *testing.T) {
	pieces := []string{"a", "B", "Ä", " ", "\n", "\u00a0", "\xc3", "\x84", "\xef\xbf", "\xbd", "\xff"}
	lower := strings.NewReplacer("B", "b", "Ä", "ä")
	every.Text(pieces, 5, func(s string) {
		want := lower.Replace(strings.Join(strings.FieldsFunc(s, Space), " "))
		got := Fold(s)
		if got != want {
			t.Fatalf("Fold(%q): %q, not %q", s, got, want)
		}
		if Fold(got) != got {
			t.Fatalf("Fold of Fold(%q) is another one", s)
		}
	})
}
