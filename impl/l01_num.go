package impl

import (
	"strconv"
	"strings"
)

const (
	largestNumber = 999999
	largestInt    = 999999999999
)

func FormatInt(n int) string { return strconv.Itoa(n) }

func ParseNumber(s string) (n int, ok bool) {
	defer func() {
		if recover() != nil {
			n, ok = 0, false
		}
	}()
	return integerOf(s, 0, largestNumber), true
}

func ParseInt(s string) (n int, ok bool) {
	defer func() {
		if recover() != nil {
			n, ok = 0, false
		}
	}()
	return integerOf(s, -largestInt, largestInt), true
}

// integerOf panics if s is malformed or out of range, so that the exported functions decide in one place what such a string gives.
func integerOf(s string, least, largest int) int {
	n, err := strconv.Atoi(s)
	if err != nil || n < least || n > largest {
		panic("not an integer in range")
	}
	// Atoi is more liberal than the document: it also takes "+1", "-0" and leading zeros.
	if FormatInt(n) != s {
		panic("not the decimal representation of an integer")
	}
	return n
}

func SplitByte(s string, by byte) []string {
	// Not string(rune(by)): above 127 that would be two bytes.
	return strings.Split(s, string([]byte{by}))
}

func Join(list []string, by string) string { return strings.Join(list, by) }
