package place

import (
	"strconv"
	"strings"
)

// maxDigits: numbers of more digits may not fit, and are none.
const maxDigits = 18

// Path: the text of steps down a tree.
func Path(steps []int) string {
	if len(steps) == 0 {
		return "/"
	}
	var b strings.Builder
	for _, step := range steps {
		if step < 0 {
			return ""
		}
		b.WriteByte('/')
		b.WriteString(strconv.Itoa(step))
	}
	return b.String()
}

// Steps: of such a text.
func Steps(path string) ([]int, bool) {
	if path == "/" {
		return nil, true
	}
	rest, ok := strings.CutPrefix(path, "/")
	if !ok {
		return nil, false
	}
	var steps []int
	for _, part := range strings.Split(rest, "/") {
		step, ok := number(part)
		if !ok {
			return nil, false
		}
		steps = append(steps, step)
	}
	return steps, true
}

// number: read by hand, since the library also takes signs and noughts ahead.
func number(digits string) (int, bool) {
	if digits == "" || len(digits) > maxDigits || digits[0] == '0' && len(digits) > 1 {
		return 0, false
	}
	n := 0
	for i := range len(digits) {
		if digits[i] < '0' || digits[i] > '9' {
			return 0, false
		}
		n = n*10 + int(digits[i]-'0')
	}
	return n, true
}
