package lines

import (
	"math"
	"strconv"
	"strings"
)

// The values of numbers.
const (
	least    = math.MinInt32
	greatest = math.MaxUint32
)

// Number returns the value of a number.
func Number(s string) (int, bool) {
	if len(s) == 3 && s[0] == '\'' && s[2] == '\'' {
		return int(s[1]), true
	}
	if hex, ok := strings.CutPrefix(s, "0x"); ok {
		return unsigned(hex, 16, greatest)
	}
	if decimal, ok := strings.CutPrefix(s, "-"); ok {
		v, ok := unsigned(decimal, 10, -least)
		return -v, ok
	}
	return unsigned(s, 10, greatest)
}

// unsigned returns the value of one or more digits of a base, unless it is greater than most.
func unsigned(digits string, base, most int) (int, bool) {
	v := 0
	for k := range len(digits) {
		d := strings.IndexByte("0123456789abcdef"[:base], digits[k])
		if d < 0 {
			return 0, false
		}
		// It is held against most at each digit: however many there are, it never wraps round.
		v = v*base + d
		if v > most {
			return 0, false
		}
	}
	return v, digits != ""
}

// Register returns the number of a register.
func Register(s string) (int, bool) {
	for n, name := range registers() {
		if s == name || s == "x"+strconv.Itoa(n) {
			return n, true
		}
	}
	return 0, false
}

func registers() [32]string {
	return [32]string{
		"zero", "ra", "sp", "gp", "tp", "t0", "t1", "t2",
		"s0", "s1", "a0", "a1", "a2", "a3", "a4", "a5",
		"a6", "a7", "s2", "s3", "s4", "s5", "s6", "s7",
		"s8", "s9", "s10", "s11", "t3", "t4", "t5", "t6",
	}
}
