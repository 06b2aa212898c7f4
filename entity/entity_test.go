package entity

import (
	"fmt"
	"regexp"
	"slices"
	"strconv"
	"strings"
	"testing"

	"bowdler/every"
)

// wanted are the names of the chapter and their runes, in its order.
func wanted() ([]string, []rune) {
	const names = "amp lt gt quot apos nbsp copy reg deg sect para middot eacute auml ouml uuml szlig ndash mdash hellip euro larr rarr"
	runes := []rune{38, 60, 62, 34, 39, 160, 169, 174, 176, 167, 182, 183, 233, 228, 246, 252, 223, 8211, 8212, 8230, 8364, 8592, 8594}
	return strings.Fields(names), runes
}

// checkAt holds what At answers of s against a text and a number of bytes.
func checkAt(t *testing.T, s, text string, size int) {
	t.Helper()
	if got, n := At(s); got != text || n != size {
		t.Errorf("At(%q): %q, %d, not %q, %d", s, got, n, text, size)
	}
}

// P301: all names, in their order.
func TestNames(t *testing.T) {
	names, _ := wanted()
	if got := Names(); !slices.Equal(got, names) {
		t.Errorf("Names(): %q, not %q", got, names)
	}
}

// P301: what is done to an answer is not seen in the next one.
func TestNamesIsNew(t *testing.T) {
	names, _ := wanted()
	first := Names()
	for i := range first {
		first[i] = "other"
	}
	_ = append(first[:1], "more")
	if got := Names(); !slices.Equal(got, names) {
		t.Errorf("Names() a second time: %q", got)
	}
	if got, ok := Named("lt"); got != "<" || !ok {
		t.Errorf("Named(lt) behind it: %q, %v", got, ok)
	}
}

// P301: the text of each name.
func TestNamed(t *testing.T) {
	names, runes := wanted()
	if len(names) != 23 || len(runes) != 23 {
		t.Fatalf("%d names, %d runes", len(names), len(runes))
	}
	for i, name := range names {
		if got, ok := Named(name); got != string(runes[i]) || !ok {
			t.Errorf("Named(%q): %q, %v, not the rune %d", name, got, ok, runes[i])
		}
	}
}

// P301: what is no name has no text.
func TestNamedOfNoName(t *testing.T) {
	for _, s := range []string{
		"", " ", ";", "&", "amp;", "&amp", "&amp;", " amp", "amp ", "amp lt", "ampamp", "am", "mp", "a",
		"Amp", "AMP", "aMp", "LT", "Auml", "nbs", "nbspx", "shy", "hearts", "frac12", "#38", "38", "x26",
		"amp\x00", "amp\xff", "\xffamp", "ａmp", "àmp", "é", "\u00a0",
	} {
		if got, ok := Named(s); got != "" || ok {
			t.Errorf("Named(%q): %q, %v", s, got, ok)
		}
	}
}

// P302: each name with its signs, and with one of them missing or another one.
func TestAtOfEachName(t *testing.T) {
	names, runes := wanted()
	for i, name := range names {
		text, size := string(runes[i]), len(name)+2
		for _, behind := range []string{"", ";", "x", name + ";", "&" + name + ";", "\xff", "\x00", "\n"} {
			checkAt(t, "&"+name+";"+behind, text, size)
		}
		for _, s := range []string{
			name + ";", "&" + name, "&" + name + " ;", "& " + name + ";", "&&" + name + ";", " &" + name + ";",
			"&" + name + "x;", "&x" + name + ";", "&" + name[1:] + ";", "&" + name[:len(name)-1] + ";",
			"&" + strings.ToUpper(name) + ";", "&" + name + "\x00;", "&" + name + "\xff;", "&" + name + "\n;",
			"&" + name + "&;", "&#" + name + ";", "&" + name + ":", "&" + name + "ļ", "＆" + name + ";",
		} {
			checkAt(t, s, "", 0)
		}
	}
}

// P302: what stands in the chapter of At, by examples.
func TestAt(t *testing.T) {
	for _, c := range []struct {
		in, text string
		size     int
	}{
		{"&#233;x", "é", 6},
		{"&#233;", "é", 6},
		{"&#1;", "\x01", 4},
		{"&#9;", "\t", 4},
		{"&#10;&#10;", "\n", 5},
		{"&#38;amp;", "&", 5},
		{"&#59;;", ";", 5},
		{"&#65;\xff", "A", 5},
		{"&#8364;", "€", 7},
		{"&#128512;", "😀", 9},
		{"&#xe9;", "é", 6},
		{"&#Xe9;", "é", 6},
		{"&#xE9;x", "é", 6},
		{"&#XE9;", "é", 6},
		{"&#xaBcD;", "\uabcd", 8},
		{"&#xFfF;", "\u0fff", 7},
		{"&#xA;", "\n", 5},
		{"&#xf;;", "\x0f", 5},
		{"&#x10;", "\x10", 6},
		{"&#x1F600;", "😀", 9},
		// As many digits as may be; those ahead may be 0.
		{"&#0000065;", "A", 10},
		{"&#01;", "\x01", 5},
		{"&#1114111;", "\U0010ffff", 10},
		{"&#x000041;", "A", 10},
		{"&#x0a;", "\n", 6},
		{"&#x10ffff;", "\U0010ffff", 10},
		// What is no rune.
		{"&#0;", "\ufffd", 4},
		{"&#00;", "\ufffd", 5},
		{"&#0000000;", "\ufffd", 10},
		{"&#x0;", "\ufffd", 5},
		{"&#x000000;", "\ufffd", 10},
		{"&#55295;", "\ud7ff", 8},
		{"&#55296;", "\ufffd", 8},
		{"&#57343;", "\ufffd", 8},
		{"&#57344;", "\ue000", 8},
		{"&#xd7ff;", "\ud7ff", 8},
		{"&#xD800;", "\ufffd", 8},
		{"&#xdfff;", "\ufffd", 8},
		{"&#xE000;", "\ue000", 8},
		{"&#x00d800;", "\ufffd", 10},
		{"&#1114112;", "\ufffd", 10},
		{"&#9999999;", "\ufffd", 10},
		{"&#x110000;", "\ufffd", 10},
		{"&#xFFFFFF;", "\ufffd", 10},
		// U+FFFD itself, and runes that are none by their sense alone.
		{"&#65533;", "\ufffd", 8},
		{"&#xFFFE;", "\ufffe", 8},
		{"&#xfdd0;", "\ufdd0", 8},
		{"&#128;", "\u0080", 6},
		{"&#13;", "\r", 5},
	} {
		checkAt(t, c.in, c.text, c.size)
	}
}

// P302: what looks like an entity, and is none.
func TestAtOfNone(t *testing.T) {
	for _, s := range []string{
		"", "&", "&&", "&;", "& ;", ";", "a", "amp;", "é", "\xff", "\x00", "&\x00;", "&\xff;", "&é;",
		"&Amp;", "&AMP;", "&amp", "&amp x;", "&am;p;", "&hearts;", "&frac12;", "&amp1;",
		// No digits, or none of theirs.
		"&#", "&#;", "&#;65;", "&# ;", "&#x", "&#x;", "&#X;", "&#xx41;", "&#xX41;", "&#Xx41;",
		"&#a;", "&#A;", "&#e9;", "&#6e9;", "&#6a;", "&#xg;", "&#xG0;", "&#x0g;", "&#x4G;", "&#x`;", "&#x@;", "&#x:;", "&#x/;", "&#:;", "&#/;",
		"&#-1;", "&#+1;", "&#x-1;", "&#x+1;", "&#1.0;", "&#1_0;", "&#0x41;", "&#0b1;", "&#1e3;",
		"&# 65;", "&#65 ;", "&#6 5;", "& #65;", "&#x 41;", "&#x41 ;", "&# x41;", "&#\n65;", "#65;", "x41;", " &#65;",
		// Digits, too many.
		"&#12345678;", "&#00000065;", "&#00000000;", "&#10000000;", "&#99999999999999999999;",
		"&#x1234567;", "&#x0000041;", "&#x0000000;", "&#x1000000;", "&#xfffffffffffffffff;",
		"&#4294967361;", "&#18446744073709551681;", "&#x100000041;", "&#x10000000000000041;",
		// No end.
		"&#65", "&#1114111", "&#x41", "&#x10ffff", "&#65&#65;", "&#65:", "&#65,", "&#65\x00;", "&#65\xff;", "&#65\n;",
		// Runes whose low byte is that of a digit, a letter or a sign; other digits.
		"&#ı;", "&#İ;", "&#65Ļ", "&ampĻ", "Ħamp;", "&ģ65;", "&#Ÿ41;", "&#xš;", "&š;",
		"&#６５;", "&#٣;", "&#x４１;", "&#xＡ;", "&#65；", "&amp；", "&＃65;",
	} {
		checkAt(t, s, "", 0)
	}
}

// P302: every number that may be written by so many digits, against what Go makes of it.
func TestAtOfEachNumber(t *testing.T) {
	check := func(number int, digits string) {
		want := string(rune(number))
		if number == 0 {
			want = "\ufffd"
		}
		if got, n := At(digits); got != want || n != len(digits) {
			t.Fatalf("At(%q): %q, %d, not %q", digits, got, n, want)
		}
	}
	for number := range 0x1000000 {
		if number > 0x111000 && number%251 != 0 && number < 0xfff000 {
			continue
		}
		hex := strconv.FormatInt(int64(number), 16)
		check(number, "&#x"+hex+";")
		check(number, "&#X"+strings.ToUpper(hex)+";")
		if number <= 9999999 {
			check(number, "&#"+strconv.Itoa(number)+";")
		}
	}
	check(9999999, "&#9999999;")
}

// P302: zeros ahead of a number, up to as many digits as may be, and one more.
func TestAtOfZerosAhead(t *testing.T) {
	for width := 1; width <= 12; width++ {
		for _, c := range []struct {
			head string
			most int
		}{{"&#", 7}, {"&#x", 6}, {"&#X", 6}} {
			s := fmt.Sprintf("%s%0*d;", c.head, width, 9)
			if width > c.most {
				checkAt(t, s, "", 0)
			} else {
				checkAt(t, s, "\t", len(s))
			}
		}
	}
}

// described says At another way.
func described(s string) (string, int) {
	names, runes := wanted()
	whole := entities.FindStringSubmatch(s)
	if whole == nil {
		return "", 0
	}
	if whole[1] != "" {
		return string(runes[slices.Index(names, whole[1])]), len(whole[0])
	}
	number, _ := strconv.ParseInt(whole[2], 10, 64)
	if whole[3] != "" {
		number, _ = strconv.ParseInt(whole[3], 16, 64)
	}
	if number == 0 || 0xd800 <= number && number <= 0xdfff || number > 0x10ffff {
		number = 0xfffd
	}
	return string(rune(number)), len(whole[0])
}

var entities = func() *regexp.Regexp {
	names, _ := wanted()
	return regexp.MustCompile(`^&(?:(` + strings.Join(names, "|") + `);|#([0-9]{1,7});|#[xX]([0-9a-fA-F]{1,6});)`)
}()

// P302: At of every short text of awkward pieces, against the same said another way.
func TestAtOfAll(t *testing.T) {
	pieces := []string{"&", "#", "x", "X", ";", "lt", "l", "gt", "0", "55", "9", "d8", "F", " ", "é", "\xff", "\x00"}
	every.Text(pieces, 4, func(s string) {
		for _, head := range []string{"", "&", "&#", "&#x"} {
			text, size := described(head + s)
			if got, n := At(head + s); got != text || n != size {
				t.Fatalf("At(%q): %q, %d, not %q, %d", head+s, got, n, text, size)
			}
		}
	})
}

// P302: long texts, of which none of what begins is an entity, or the first alone.
func TestAtOfLongText(t *testing.T) {
	const n = 1 << 14
	for _, piece := range []string{"&", "&#", "&#x", "&a", "&#1", "&#xa", "&amp"} {
		s := strings.Repeat(piece, n)
		for i := range s {
			if got, size := At(s[i:]); got != "" || size != 0 {
				t.Fatalf("At of %q, many times: %q, %d", piece, got, size)
			}
		}
	}
	checkAt(t, "&"+strings.Repeat("a", 1<<20)+";", "", 0)
	checkAt(t, "&#"+strings.Repeat("0", 1<<20)+";", "", 0)
	checkAt(t, "&amp;"+strings.Repeat(";", 1<<20), "&", 5)
}
