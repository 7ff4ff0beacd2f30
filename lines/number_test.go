package lines

import (
	"math/big"
	"regexp"
	"slices"
	"strconv"
	"strings"
	"testing"
)

var (
	decimalForm = regexp.MustCompile(`\A-?[0-9]+\z`)
	hexForm     = regexp.MustCompile(`\A0x([0-9a-f]+)\z`)
)

// modelNumber says what Number answers.
func modelNumber(s string) (int, bool) {
	if len(s) == 3 && s[0] == 39 && s[2] == 39 {
		return int(s[1]), true
	}
	v := new(big.Int)
	if m := hexForm.FindStringSubmatch(s); m != nil {
		v.SetString(m[1], 16)
	} else if decimalForm.MatchString(s) {
		v.SetString(s, 10)
	} else {
		return 0, false
	}
	if v.Cmp(big.NewInt(-1<<31)) < 0 || v.Cmp(big.NewInt(1<<32)) >= 0 {
		return 0, false
	}
	return int(v.Int64()), true
}

func checkNumber(t *testing.T, s string, want int, ok bool) {
	t.Helper()
	if v, is := Number(s); v != want || is != ok {
		t.Errorf("Number(%.100q) = %d, %v, want %d, %v", s, v, is, want, ok)
	}
}

func checkNumberModel(t *testing.T, s string) {
	t.Helper()
	want, ok := modelNumber(s)
	checkNumber(t, s, want, ok)
}

func checkRegister(t *testing.T, s string, want int, ok bool) {
	t.Helper()
	if n, is := Register(s); n != want || is != ok {
		t.Errorf("Register(%q) = %d, %v, want %d, %v", s, n, is, want, ok)
	}
}

func TestP602Number(t *testing.T) {
	for s, want := range map[string]int{
		"0": 0, "-0": 0, "00": 0, "-00": 0, "7": 7, "007": 7, "-007": -7, "-1": -1, "9": 9, "10": 10, "1234567890": 1234567890,
		"2147483647": 1<<31 - 1, "2147483648": 1 << 31, "4294967295": 1<<32 - 1, "-2147483647": 1 - 1<<31, "-2147483648": -1 << 31,
		"0x0": 0, "0x1f": 31, "0x00": 0, "0x001f": 31, "0xabcdef": 0xabcdef, "0x9": 9, "0x7fffffff": 1<<31 - 1, "0x80000000": 1 << 31, "0xffffffff": 1<<32 - 1,
		"'Z'": 90, "' '": 32, "'''": 39, "'\"'": 34, "'\n'": 10, "'\x00'": 0, "'\xff'": 255, "'0'": 48, "'-'": 45, "'/'": 47,
	} {
		checkNumber(t, s, want, true)
		checkNumberModel(t, s)
	}
}

func TestP602NoNumber(t *testing.T) {
	for _, s := range list("", "-", "--1", "-+1", "+1", "+", "0x", "-0x1", "-0x", "+0x1", "0x-1", "x1", "0X1f", "0xF", "0xFF", "0xfF", "0xg", "0x1g", "0x1 ", " 0x1", "00x1", "0x0x1",
		"4294967296", "4294967297", "8589934592", "-2147483649", "-4294967295", "-4294967296", "0x100000000", "0x1ffffffff", "18446744073709551616", "18446744073709551617",
		"9223372036854775807", "9223372036854775808", "-9223372036854775808", "-9223372036854775809", "-18446744073709551615", "0x10000000000000001", "0x8000000000000000",
		"1a", "a", "a1", "f", "1_000", "1.0", "1e3", "1-", "1-1", "- 1", " 1", "1 ", "\t1", "1\n", "1\x00", "\u0661", "0b1", "0o7", "1h", "#1", "$1",
		"'", "''", "'ab'", "'a", "a'", "'a'b", "b'a'", "-'a'", "''''", "'''''", "'ab", "'\u00e9'", "\"a\"", "`a`", "'a' ", "zero", "x0") {
		checkNumber(t, s, 0, false)
		checkNumberModel(t, s)
	}
}

// Each form is tried around its least and greatest value, with zeros and digits added.
func TestP602NumberEdges(t *testing.T) {
	for _, edge := range []int64{0, 9, 10, 16, 1 << 28, 1 << 31, 1 << 32, 10 << 30, 1 << 36, 1 << 62} {
		for d := int64(-20); d <= 20; d++ {
			v := edge + d
			if v < 0 {
				continue
			}
			for _, zeros := range list("", "0", "000", strings.Repeat("0", 100)) {
				for _, more := range list("", "0", "9", strings.Repeat("0", 30)) {
					digits := zeros + strconv.FormatInt(v, 10) + more
					checkNumberModel(t, digits)
					checkNumberModel(t, "-"+digits)
					checkNumberModel(t, "0x"+zeros+strconv.FormatInt(v, 16)+more)
				}
			}
		}
	}
	// However many digits there are, their sum does not wrap round.
	for n := range 80 {
		for _, d := range "123456789abcdef" {
			s := string(d) + strings.Repeat("0", n)
			checkNumberModel(t, s)
			checkNumberModel(t, "-"+s)
			checkNumberModel(t, "0x"+s)
			checkNumberModel(t, "0x"+strings.Repeat(string(d), n))
		}
	}
}

func TestP602NumberEachByte(t *testing.T) {
	for k := range 256 {
		c := string([]byte{byte(k)})
		checkNumber(t, "'"+c+"'", k, true)
		for _, s := range list(c, c+c, "1"+c, c+"1", "-"+c, "-1"+c, "0x"+c, "0x1"+c, "0x"+c+"1", "0"+c+"1", "'"+c, c+"'", "'"+c+c+"'", "'a"+c, c+"a'", "'"+c+"' ", "-'"+c+"'") {
			checkNumberModel(t, s)
		}
	}
}

func TestP602NumberShortTexts(t *testing.T) {
	short("-+0x19fF' g", 5, func(s string) { checkNumberModel(t, s) })
}

// names: those of the registers, in the order of their numbers.
var names = strings.Fields("zero ra sp gp tp t0 t1 t2 s0 s1 a0 a1 a2 a3 a4 a5 a6 a7 s2 s3 s4 s5 s6 s7 s8 s9 s10 s11 t3 t4 t5 t6")

func TestP602Register(t *testing.T) {
	for n := range 32 {
		checkRegister(t, "x"+strconv.Itoa(n), n, true)
		checkRegister(t, names[n], n, true)
	}
	for s, n := range map[string]int{"zero": 0, "ra": 1, "sp": 2, "gp": 3, "tp": 4, "t0": 5, "t2": 7, "s0": 8, "s1": 9, "a0": 10, "a7": 17, "s2": 18, "s11": 27, "t3": 28, "t6": 31, "x17": 17} {
		checkRegister(t, s, n, true)
	}
}

func TestP602NoRegister(t *testing.T) {
	for _, s := range list("", "x", "x32", "x33", "x99", "x100", "x00", "x01", "x031", "x-1", "x+1", "x1 ", " x1", "x1:", "X1", "x 1", "xa", "x0x1", "t7", "t8", "t-1", "t00", "t01", "s12", "s00", "s01",
		"s010", "s02", "a8", "a00", "a01", "a10", "fp", "r1", "R1", "Zero", "ZERO", "RA", "Sp", "T0", "A0", "S11", "zer", "zeroo", "0", "1", "31", "pc", "x4294967297", "x18446744073709551617", "x\u0661") {
		checkRegister(t, s, 0, false)
	}
}

// No text is a register but the sixty-four.
func TestP602RegisterNeighbours(t *testing.T) {
	known := slices.Clone(names)
	for n := range 32 {
		known = append(known, "x"+strconv.Itoa(n))
	}
	check := func(s string) {
		at := slices.Index(known, s)
		checkRegister(t, s, max(at, 0)%32, at >= 0)
	}
	for _, name := range known {
		for cut := range len(name) + 1 {
			check(name[:cut])
			check(name[cut:])
			for k := range 256 {
				c := string([]byte{byte(k)})
				check(name[:cut] + c + name[cut:])
				if cut < len(name) {
					check(name[:cut] + c + name[cut+1:])
					check(name[:cut] + name[cut+1:])
				}
			}
		}
	}
	short("xatsrpgzo0123", 4, check)
}
