package impl

import (
	"strconv"
	"strings"
)

const (
	maxNumber  = 999999
	maxInteger = 999999999999
)

func FormatInt(n int) string { return strconv.Itoa(n) }

func ParseNumber(s string) (int, bool) {
	n, ok := ParseInt(s)
	if !ok || n < 0 || n > maxNumber {
		return 0, false
	}
	return n, true
}

func ParseInt(s string) (int, bool) {
	// A call that recovers returns the zero values of its unnamed results: 0 and false.
	defer func() { _ = recover() }()
	return mustReadInt(s), true
}

// mustReadInt panics if s is malformed or its integer is beyond maxInteger on either side.
func mustReadInt(s string) int {
	n, err := strconv.Atoi(s)
	if err != nil || n < -maxInteger || n > maxInteger {
		panic("no integer in range")
	}
	// Atoi also reads a plus sign, leading zeros and "-0", which FormatInt never writes.
	if FormatInt(n) != s {
		panic("malformed integer")
	}
	return n
}

func SplitByte(s string, by byte) []string {
	// string(by) would be two bytes long from 128 on: the UTF-8 form of a rune.
	return strings.Split(s, string([]byte{by}))
}

func Join(list []string, by string) string { return strings.Join(list, by) }
