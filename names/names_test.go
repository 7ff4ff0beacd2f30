package names

import (
	"strings"
	"testing"

	"swage/api"
)

func TestP902Constants(t *testing.T) {
	got := [...]int{Buckets, Immediate, Inline, NoTail, Hidden}
	if want := [...]int{16, 1, 2, 4, 8}; got != want {
		t.Errorf("the constants are %v, not %v", got, want)
	}
}

func TestP902Right(t *testing.T) {
	for name, want := range map[string]bool{
		"": false, " ": false, "a b": false, "a ": false, " a": false, "A": true, "!": true, "~": true, "\x7f": false, "\x00": false, "\n": false,
		"DUP": true, "['],\\": true, "\"": true, "é": false, "1": true, "@0": true, "a:": true, "//": true, "a\x80": false,
	} {
		if got := Right(name); got != want {
			t.Errorf("Right(%q) = %v", name, got)
		}
		checkName(t, name)
	}
}

func TestP902RightByLength(t *testing.T) {
	for n := range 300 {
		name := strings.Repeat("a", n)
		if got, want := Right(name), n >= 1 && n <= api.MaxName; got != want {
			t.Errorf("Right of %d bytes = %v", n, got)
		}
		checkName(t, name)
	}
	for _, n := range []int{1 << 10, 1 << 16, 1 << 20} {
		if Right(strings.Repeat("a", n)) {
			t.Errorf("Right of %d bytes", n)
		}
	}
}

// Names with one byte of each value, at each place of names of some lengths.
func TestP902EachByteAtEachPlace(t *testing.T) {
	for _, n := range []int{1, 2, 3, 4, 5, api.MaxName - 1, api.MaxName, api.MaxName + 1, 40} {
		for at := range n {
			for b := range 256 {
				name := []byte(strings.Repeat("x", n))
				name[at] = byte(b)
				if got, want := Right(string(name)), b >= 33 && b <= 126 && n <= api.MaxName; got != want {
					t.Fatalf("Right(%q) = %v", name, got)
				}
				checkName(t, string(name))
				h := Head{Name: string(name), Flags: b % 16, Link: 1, Xt: 2, Size: 3}
				if _, err := checkBytes(t, h); err == api.OK {
					checkInverse(t, h)
				}
			}
		}
	}
}

func TestP902HashExamples(t *testing.T) {
	for name, want := range map[string]int{"": 0, "A": 5, "\x00": 0, "\x01": 1, "\x10": 1, "\x11": 0, "\xff": 0, "\xf0": 15, "\x00\x00A": 5} {
		if got := Hash(name); got != want {
			t.Errorf("Hash(%q) = %d, not %d", name, got, want)
		}
	}
	// 65 * 31 + 66 is 0x821.
	if got := Hash("AB"); got != 8^2^1 {
		t.Errorf("Hash(AB) = %d", got)
	}
}

// All texts of one byte, and of two.
func TestP902HashOfShortTexts(t *testing.T) {
	var met [Buckets]bool
	for a := range 256 {
		one := string([]byte{byte(a)})
		if got := Hash(one); got != a/16^a%16 {
			t.Errorf("Hash(%q) = %d", one, got)
		}
		met[Hash(one)] = true
		checkName(t, one)
		for b := range 256 {
			checkName(t, string([]byte{byte(a), byte(b)}))
		}
	}
	for hash, is := range met {
		if !is {
			t.Errorf("no text of one byte has the hash %d", hash)
		}
	}
}

// Texts so long that the value passes 2^32 many times, valid names or not.
func TestP902HashOfLongTexts(t *testing.T) {
	r := random(902)
	for _, n := range []int{6, 7, 8, 15, 16, 30, 31, 32, 33, 64, 100, 1000, 5000} {
		for range 20 {
			b := make([]byte, n)
			for k := range b {
				b[k] = byte(r(256))
			}
			checkName(t, string(b))
		}
		for _, b := range []string{"\x00", "\x01", " ", "A", "~", "\x7f", "\x80", "\xff"} {
			checkName(t, strings.Repeat(b, n))
		}
	}
	// The value of these passes 2^32 at the last byte alone, or just doesn't.
	for _, last := range []string{"\x03", "\x04", "\x05"} {
		checkName(t, "\x04\x1f\x1d\x00\x02\x00"+last)
	}
}

func TestP902Length(t *testing.T) {
	for name, want := range map[string]int{"A": 16, "AB": 16, "ABC": 20, "DUP": 20, "": 16, " ": 16, "a b": 20, "\x00\xff": 16, "ABCDEF": 20, "ABCDEFG": 24, strings.Repeat(" ", 32): 0} {
		if got := Length(name); got != want {
			t.Errorf("Length(%q) = %d, not %d", name, got, want)
		}
	}
	want := [33]int{16, 16, 16, 20, 20, 20, 20, 24, 24, 24, 24, 28, 28, 28, 28, 32, 32, 32, 32, 36, 36, 36, 36, 40, 40, 40, 40, 44, 44, 44, 44, 48, 0}
	for n, length := range want {
		for _, b := range []string{"a", " ", "\x00", "\xff"} {
			if got := Length(strings.Repeat(b, n)); got != length {
				t.Errorf("Length of %d times %q = %d, not %d", n, b, got, length)
			}
		}
	}
	for _, n := range []int{33, 34, 35, 36, 47, 48, 63, 64, 256, 1 << 16, 1<<20 + 1} {
		for _, b := range []string{"a", "\x00"} {
			if got := Length(strings.Repeat(b, n)); got != 0 {
				t.Errorf("Length of %d times %q = %d", n, b, got)
			}
		}
	}
}
