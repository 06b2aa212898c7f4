package every

import (
	"slices"
	"testing"
)

func TestText(t *testing.T) {
	for _, c := range []struct {
		pieces []string
		most   int
		want   []string
	}{
		{nil, 3, []string{""}},
		{[]string{"a"}, 0, []string{""}},
		{[]string{"a", "bc"}, 1, []string{"", "a", "bc"}},
		{[]string{"a", "bc"}, 2, []string{"", "a", "aa", "abc", "bc", "bca", "bcbc"}},
	} {
		var got []string
		Text(c.pieces, c.most, func(s string) { got = append(got, s) })
		if !slices.Equal(got, c.want) {
			t.Errorf("Text of %q, %d: %q", c.pieces, c.most, got)
		}
	}
}
