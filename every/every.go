// Package every helps the tests of the other packages: they ask a call of every short text.
package every

// Text calls f with every text of up to most of the pieces.
func Text(pieces []string, most int, f func(string)) {
	add("", pieces, most, f)
}

func add(s string, pieces []string, left int, f func(string)) {
	f(s)
	if left == 0 {
		return
	}
	for _, p := range pieces {
		add(s+p, pieces, left-1, f)
	}
}
