package names

import (
	"encoding/binary"
	"math/big"
	"regexp"
	"slices"
	"strconv"
	"strings"
	"testing"

	"swage/api"
)

// A test's name begins with the number of the promise that it holds.

var validName = regexp.MustCompile(`^[\x21-\x7e]{1,31}$`)

// modelHash takes the value as a number of any size, and its groups as hexadecimal digits.
func modelHash(name string) int {
	v := new(big.Int)
	for _, b := range []byte(name) {
		v.Add(v.Mul(v, big.NewInt(31)), big.NewInt(int64(b)))
	}
	v.Mod(v, new(big.Int).Lsh(big.NewInt(1), 32))
	hash := 0
	for _, digit := range v.Text(16) {
		group, _ := strconv.ParseInt(string(digit), 16, 0)
		hash ^= int(group)
	}
	return hash
}

// modelLength adds padding byte by byte.
func modelLength(name string) int {
	if len(name) > 31 {
		return 0
	}
	n := 4 + 4 + 4 + 1 + 1 + len(name)
	for n%4 != 0 {
		n++
	}
	return n
}

func modelBytes(h Head) ([]byte, api.Errno) {
	if !validName.MatchString(h.Name) {
		return nil, api.ErrName
	}
	if h.Flags < 0 || h.Flags > 15 {
		return nil, api.ErrArg
	}
	b := make([]byte, modelLength(h.Name))
	binary.LittleEndian.PutUint32(b, h.Link)
	binary.LittleEndian.PutUint32(b[4:], h.Xt)
	binary.LittleEndian.PutUint32(b[8:], h.Size)
	b[12], b[13] = byte(h.Flags), byte(len(h.Name))
	copy(b[14:], h.Name)
	return b, api.OK
}

// modelRead looks at each part on its own, where the program holds all bytes against its own ones.
func modelRead(b []byte) (Head, int, api.Errno) {
	if len(b) < 14 || b[12] > 15 || b[13] > 31 {
		return Head{}, 0, api.ErrForm
	}
	end := 14 + int(b[13])
	n := (end + 3) &^ 3
	if len(b) < n || !validName.Match(b[14:end]) || strings.Trim(string(b[end:n]), "\x00") != "" {
		return Head{}, 0, api.ErrForm
	}
	u := binary.LittleEndian.Uint32
	return Head{string(b[14:end]), int(b[12]), u(b), u(b[4:]), u(b[8:])}, n, api.OK
}

// checkName holds all that is said of a text against the model.
func checkName(t *testing.T, name string) {
	t.Helper()
	if got, want := Right(name), validName.MatchString(name); got != want {
		t.Fatalf("Right(%q) = %v", short(name), got)
	}
	if got, want := Hash(name), modelHash(name); got != want {
		t.Fatalf("Hash(%q) = %d, not %d", short(name), got, want)
	}
	if got, want := Length(name), modelLength(name); got != want {
		t.Fatalf("Length(%q) = %d, not %d", short(name), got, want)
	}
}

// checkBytes holds Bytes against the model, and returns what it answered.
func checkBytes(t *testing.T, h Head) ([]byte, api.Errno) {
	t.Helper()
	want, err := modelBytes(h)
	got, e := Bytes(h)
	if e != err || !slices.Equal(got, want) {
		h.Name = short(h.Name)
		t.Fatalf("Bytes(%+v) = %q, %d; not %q, %d", h, got, e, want, err)
	}
	return got, e
}

// checkRead holds Read against the model, and returns what it answered.
func checkRead(t *testing.T, b []byte) (Head, int, api.Errno) {
	t.Helper()
	want, length, err := modelRead(b)
	got, n, e := Read(b)
	if got != want || n != length || e != err {
		t.Fatalf("Read(%q) = %+v, %d, %d; not %+v, %d, %d", short(string(b)), got, n, e, want, length, err)
	}
	return got, n, e
}

// checkInverse writes a right header, and reads it, with bytes behind it too.
func checkInverse(t *testing.T, h Head) {
	t.Helper()
	b, err := checkBytes(t, h)
	if err != api.OK {
		t.Fatalf("Bytes(%+v): %d", h, err)
	}
	for _, behind := range []string{"", "\x00", "A", "\xff\x00\x01", "\x00\x00\x00\x00", string(b), strings.Repeat("behind", 40)} {
		if got, n, err := checkRead(t, append(b[:len(b):len(b)], behind...)); got != h || n != len(b) || n != Length(h.Name) || err != api.OK {
			t.Fatalf("Read of the bytes of %+v, with %q behind them: %+v, %d, %d", h, behind, got, n, err)
		}
	}
}

// short is the beginning of a text, which is enough to tell which one it is.
func short(s string) string { return s[:min(len(s), 80)] }

// random returns a source of numbers below n that is the same each time.
func random(seed uint64) func(n int) int {
	return func(n int) int {
		seed ^= seed << 13
		seed ^= seed >> 7
		seed ^= seed << 17
		return int(seed % uint64(n))
	}
}

// anyName returns a valid name.
func anyName(r func(int) int) string {
	name := make([]byte, 1+r(api.MaxName))
	for k := range name {
		name[k] = byte(33 + r(94))
	}
	return string(name)
}

// anyHead returns a right header.
func anyHead(r func(int) int) Head {
	return Head{anyName(r), r(16), uint32(r(1 << 32)), uint32(r(1 << 32)), uint32(r(1 << 32))}
}
