package num

import (
	"math"
	"strconv"
	"strings"
)

const mostDigits = 40

func ReadInt(s string) (int64, bool) {
	if !isWhole(s) {
		return 0, false
	}
	n, err := strconv.ParseInt(s, 10, 64)
	if err != nil {
		return 0, false
	}
	return n, true
}

func ReadFloat(s string) (uint64, bool) {
	whole, part, ok := strings.Cut(s, ".")
	if !ok || len(whole)+len(part) > mostDigits || !isWhole(whole) || !isDigits(part) {
		return 0, false
	}
	f, err := strconv.ParseFloat(s, 64)
	if err != nil {
		return 0, false
	}
	return math.Float64bits(f), true
}

func isWhole(s string) bool {
	return isDigits(s) && (s[0] != '0' || len(s) == 1)
}

func isDigits(s string) bool {
	for i := range len(s) {
		if s[i] < '0' || s[i] > '9' {
			return false
		}
	}
	return s != ""
}
