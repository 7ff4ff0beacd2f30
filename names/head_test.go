package names

import (
	"math"
	"slices"
	"strings"
	"testing"

	"swage/api"
)

// fields are the values that Link, Xt and Size are tried with.
func fields() []uint32 { return []uint32{0, 1, 0x01020304, 0x80000000, 0xffffffff} }

// failsRead holds Read of bytes that are no header's.
func failsRead(t *testing.T, b []byte) {
	t.Helper()
	if h, n, err := checkRead(t, b); h != (Head{}) || n != 0 || err != api.ErrForm {
		t.Fatalf("Read(%q) = %+v, %d, %d", short(string(b)), h, n, err)
	}
}

func bytesOf(t *testing.T, h Head) []byte {
	t.Helper()
	b, err := checkBytes(t, h)
	if err != api.OK {
		t.Fatalf("Bytes(%+v): %d", h, err)
	}
	return b
}

func TestP902BytesByHand(t *testing.T) {
	for _, x := range []struct {
		h    Head
		want string
	}{
		{Head{Name: "A"}, "\x00\x00\x00\x00\x00\x00\x00\x00\x00\x00\x00\x00\x00\x01A\x00"},
		{Head{"XY", 15, 0x01020304, 0x80000000, 0xffffffff}, "\x04\x03\x02\x01\x00\x00\x00\x80\xff\xff\xff\xff\x0f\x02XY"},
		{Head{"DUP", Inline | NoTail, 4, 0x18, 0x100}, "\x04\x00\x00\x00\x18\x00\x00\x00\x00\x01\x00\x00\x06\x03DUP\x00\x00\x00"},
		{Head{"[IF]!", Immediate, 1, 2, 3}, "\x01\x00\x00\x00\x02\x00\x00\x00\x03\x00\x00\x00\x01\x05[IF]!\x00"},
	} {
		if got := bytesOf(t, x.h); string(got) != x.want {
			t.Errorf("Bytes(%+v) = %q, not %q", x.h, got, x.want)
		}
		checkInverse(t, x.h)
	}
}

func TestP902FlagsOfBytes(t *testing.T) {
	for _, flags := range []int{math.MinInt, math.MinInt32, -16, -15, -1, 16, 17, 31, 32, 255, 256, 257, 1 << 32, 1<<32 + 1, math.MaxInt - 15, math.MaxInt} {
		for _, name := range []string{"X", "DUP", strings.Repeat("x", api.MaxName)} {
			if b, err := Bytes(Head{Name: name, Flags: flags}); len(b) != 0 || err != api.ErrArg {
				t.Errorf("Bytes of %q with flags %d = %q, %d", name, flags, b, err)
			}
		}
		// The name's error comes first.
		for _, name := range []string{"", " ", "a b", "X\x7f", strings.Repeat("x", api.MaxName+1)} {
			if b, err := Bytes(Head{Name: name, Flags: flags}); len(b) != 0 || err != api.ErrName {
				t.Errorf("Bytes of %q with flags %d = %q, %d", name, flags, b, err)
			}
		}
	}
	for flags := range 16 {
		b := bytesOf(t, Head{Name: "X", Flags: flags})
		if int(b[12]) != flags {
			t.Errorf("the flags %d are written as %d", flags, b[12])
		}
		if got, err := Bytes(Head{Name: "a b", Flags: flags}); len(got) != 0 || err != api.ErrName {
			t.Errorf("Bytes of a wrong name with flags %d = %q, %d", flags, got, err)
		}
	}
}

func TestP902NamesOfBytes(t *testing.T) {
	for _, name := range []string{"", " ", "a b", "a ", "\x00", "\x1f", "\x7f", "\x80", "\xff", "é", strings.Repeat("x", 32), strings.Repeat("x", 255), strings.Repeat("x", 256+5), strings.Repeat(" ", 1<<16)} {
		if b, err := Bytes(Head{Name: name, Link: 1, Xt: 2, Size: 3}); len(b) != 0 || err != api.ErrName {
			t.Errorf("Bytes of the name %q = %q, %d", short(name), b, err)
		}
	}
}

// All values of the fields together, with names of each length modulo 4.
func TestP902FieldsOfBytes(t *testing.T) {
	for _, name := range []string{"A", "AB", "ABC", "ABCD", "ABCDE", strings.Repeat("~", api.MaxName-1), strings.Repeat("!", api.MaxName)} {
		for _, link := range fields() {
			for _, xt := range fields() {
				for _, size := range fields() {
					checkInverse(t, Head{name, int(link+xt+size) % 16, link, xt, size})
				}
			}
		}
		for flags := -1; flags <= 16; flags++ {
			checkBytes(t, Head{name, flags, 5, 6, 7})
		}
	}
}

func TestP902ReadExample(t *testing.T) {
	h := Head{Name: "XYZ"}
	for b := range 256 {
		if got, n, err := checkRead(t, append(bytesOf(t, h), byte(b))); got != h || n != 20 || err != api.OK {
			t.Errorf("Read = %+v, %d, %d", got, n, err)
		}
	}
}

func TestP902ReadTooFewBytes(t *testing.T) {
	failsRead(t, nil)
	failsRead(t, []byte{})
	for n := 1; n <= api.MaxName; n++ {
		b := bytesOf(t, Head{strings.Repeat("n", n), n % 16, 1, 2, 3})
		for k := range b {
			failsRead(t, b[:k])
			failsRead(t, b[:k:k])
			failsRead(t, slices.Clone(b[:k]))
		}
	}
	// There is room for a header of no name, or of no more than zeros.
	for n := range 100 {
		failsRead(t, make([]byte, n))
		failsRead(t, []byte(strings.Repeat("\xff", n)))
	}
}

// Each byte is changed to each other value: only flags, name and the three words may be others.
func TestP902ReadChangedBytes(t *testing.T) {
	for _, name := range []string{"A", "AB", "ABC", "ABCD", "ABCDE", "ABCDEFG", strings.Repeat("n", api.MaxName)} {
		whole := bytesOf(t, Head{name, 5, 0x01020304, 0x05060708, 0x090a0b0c})
		for at := range whole {
			for v := range 256 {
				b := slices.Clone(whole)
				b[at] = byte(v)
				checkRead(t, b)
				checkRead(t, append(b, "behind it"...))
			}
		}
	}
}

func TestP902ReadWrongBytes(t *testing.T) {
	behind := strings.Repeat("x", 300)
	for _, name := range []string{"A", "DUP", "ABCD", strings.Repeat("n", api.MaxName)} {
		whole := append(bytesOf(t, Head{Name: name, Flags: 15, Link: 7, Xt: 8, Size: 9}), behind...)
		changed := func(at int, v byte) []byte {
			b := slices.Clone(whole)
			b[at] = v
			return b
		}
		for _, length := range []byte{0, api.MaxName + 1, api.MaxName + 2, 127, 128, 255} {
			failsRead(t, changed(13, length))
		}
		for _, flags := range []byte{16, 17, 32, 128, 255} {
			failsRead(t, changed(12, flags))
		}
		for k := range len(name) {
			for _, v := range []byte{0, 31, 32, 127, 128, 255} {
				failsRead(t, changed(14+k, v))
			}
			for _, v := range []byte{33, 126} {
				if h, _, err := checkRead(t, changed(14+k, v)); err != api.OK || h.Name[k] != v {
					t.Errorf("Read of a name with the byte %d = %+v, %d", v, h, err)
				}
			}
		}
		for at := 14 + len(name); at < Length(name); at++ {
			for _, v := range []byte{1, 32, 'x', 128, 255} {
				failsRead(t, changed(at, v))
			}
		}
		// What is behind a header is not looked at.
		for at := Length(name); at < Length(name)+8; at++ {
			for _, v := range []byte{0, 1, 255} {
				if _, _, err := checkRead(t, changed(at, v)); err != api.OK {
					t.Errorf("Read with %d behind the header: %d", v, err)
				}
			}
		}
	}
}

// A length that is shorter than the name makes padding of the name's end, or the header's end of its middle.
func TestP902ReadOtherLengths(t *testing.T) {
	for n := 1; n <= api.MaxName; n++ {
		b := append(bytesOf(t, Head{Name: strings.Repeat("n", n)}), "nnnnnnnn"...)
		for length := range 256 {
			b[13] = byte(length)
			checkRead(t, b)
		}
	}
}

func TestP903DrawnHeaders(t *testing.T) {
	r := random(903)
	for range 5000 {
		checkInverse(t, anyHead(r))
	}
}

// writtenBack reads bytes, holds a header that was read against them, and reports whether there was one.
func writtenBack(t *testing.T, b []byte) bool {
	t.Helper()
	h, n, err := checkRead(t, b)
	if err != api.OK {
		return false
	}
	if own := bytesOf(t, h); n != len(own) || !slices.Equal(own, b[:n]) {
		t.Fatalf("Read(%q) = %+v, whose bytes are %q", b, h, own)
	}
	return true
}

// Drawn bytes that look like a header: what is read has these bytes.
func TestP903DrawnBytes(t *testing.T) {
	r := random(9030)
	read := 0
	for range 60000 {
		b := make([]byte, r(60))
		for k := range b {
			switch {
			case k == 12:
				b[k] = byte(r(18))
			case k == 13:
				b[k] = byte(r(8))
			case k > 13 && r(3) > 0:
				b[k] = byte(max(0, 30+r(99)-r(2)*200))
			default:
				b[k] = byte(r(256))
			}
		}
		if writtenBack(t, b) {
			read++
		}
	}
	if read < 1000 {
		t.Errorf("only %d of the drawn bytes are headers", read)
	}
}

// The same for right headers of which some bytes are drawn anew.
func TestP903SpoiltHeaders(t *testing.T) {
	r := random(9031)
	read := 0
	for range 20000 {
		b := bytesOf(t, anyHead(r))
		for range 1 + r(3) {
			b[r(len(b))] = byte(r(256))
		}
		if writtenBack(t, b) {
			read++
		}
	}
	if read < 1000 {
		t.Errorf("only %d of the spoilt headers are headers", read)
	}
}

// neighbours returns headers that differ from h in one field alone.
func neighbours(h Head) (all []Head) {
	for bit := range 32 {
		link, xt, size := h, h, h
		link.Link ^= 1 << bit
		xt.Xt ^= 1 << bit
		size.Size ^= 1 << bit
		all = append(all, link, xt, size)
	}
	for flags := range 16 {
		if flags != h.Flags {
			other := h
			other.Flags = flags
			all = append(all, other)
		}
	}
	names := []string{h.Name[1:], h.Name[:len(h.Name)-1], h.Name + "!", h.Name + "~", "!" + h.Name, strings.ToLower(h.Name), strings.Repeat(h.Name, 2)}
	for k := range len(h.Name) {
		changed := []byte(h.Name)
		changed[k] = byte(33 + (int(changed[k])-32)%94)
		names = append(names, string(changed))
	}
	for _, name := range names {
		if name != h.Name && validName.MatchString(name) {
			other := h
			other.Name = name
			all = append(all, other)
		}
	}
	return all
}

func TestP904HeadersThatDifferInOneField(t *testing.T) {
	r := random(904)
	heads := []Head{{Name: "A"}, {Name: "~"}, {Name: "AB", Flags: 15, Link: 1, Xt: 1, Size: 1}, {Name: "DUP", Link: math.MaxUint32}, {Name: strings.Repeat("N", api.MaxName)}}
	for range 200 {
		heads = append(heads, anyHead(r))
	}
	for _, h := range heads {
		b := bytesOf(t, h)
		for _, other := range neighbours(h) {
			if slices.Equal(b, bytesOf(t, other)) {
				t.Fatalf("%+v and %+v have the same bytes", h, other)
			}
		}
	}
}

// No two of many headers that are alike have the same bytes, and none begins with another's.
func TestP904FewValues(t *testing.T) {
	met := map[string]Head{}
	for _, name := range []string{"A", "AB", "ABC", "AA", "B", "!"} {
		for flags := range 16 {
			for _, link := range fields() {
				for _, xt := range fields() {
					for _, size := range fields() {
						h := Head{name, flags, link, xt, size}
						s := string(bytesOf(t, h))
						if other, is := met[s]; is {
							t.Fatalf("%+v and %+v have the same bytes", h, other)
						}
						met[s] = h
					}
				}
			}
		}
	}
}
