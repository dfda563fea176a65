package wal

import (
	"strconv"
	"strings"

	"atrium/api"
)

const (
	namePrefix = "wal-"
	nameDigits = 6 // at least so many
)

// Name is the name of a log's file.
func Name(number int) string {
	if number < 0 {
		return ""
	}
	digits := strconv.Itoa(number)
	noughts := max(nameDigits-len(digits), 0)
	return namePrefix + strings.Repeat("0", noughts) + digits
}

// Number is the number of a name. What Atoi reads beside a name's own digits (signs, noughts too many) is not what Name writes.
func Number(name string) (int, bool) {
	n, err := strconv.Atoi(strings.TrimPrefix(name, namePrefix))
	if err != nil || n > api.MaxNumber || Name(n) != name {
		return 0, false
	}
	return n, true
}
