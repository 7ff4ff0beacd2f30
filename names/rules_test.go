package names

import (
	"bytes"
	"math"
	"slices"
	"strings"
	"testing"
	"unsafe"

	"swage/api"
)

func TestP901ResultsShareNoMemory(t *testing.T) {
	h := Head{"DUP", 3, 4, 5, 6}
	a, _ := Bytes(h)
	b, _ := Bytes(h)
	want, _ := modelBytes(h)
	for k := range a[:cap(a)] {
		a[:cap(a)][k] = 0xee
	}
	c, _ := Bytes(h)
	if !slices.Equal(b, want) || !slices.Equal(c, want) || h.Name != "DUP" {
		t.Errorf("what is written to a result is seen in others: %q, %q", b, c)
	}
}

// What was read stays as it was, whatever becomes of the bytes.
func TestP901ReadKeepsNoBytes(t *testing.T) {
	for n := 1; n <= api.MaxName; n++ {
		want := Head{strings.Repeat("n", n), 1, 2, 3, 4}
		b, _ := Bytes(want)
		got, _, _ := Read(b)
		again, _, _ := Read(b)
		for k := range b[:cap(b)] {
			b[:cap(b)][k] = 'x'
		}
		if got != want || again != want {
			t.Errorf("the header has changed with the bytes: %+v", got)
		}
		if n > 1 && unsafe.StringData(got.Name) == unsafe.StringData(again.Name) {
			t.Error("two results share their names")
		}
	}
}

// Neither the bytes nor what stands behind their length is changed.
func TestP901ArgumentsAreUnchanged(t *testing.T) {
	for _, name := range []string{"A", "DUP", "a name!", ""} {
		b, _ := modelBytes(Head{Name: "DUP", Link: 9})
		b = append(append(b, name...), "behind it"...)
		before := slices.Clone(b)
		for n := range b {
			Read(b[:n])
			if !bytes.Equal(b, before) {
				t.Fatalf("Read of %d bytes has changed them: %q", n, b)
			}
		}
	}
}

func TestP901Pure(t *testing.T) {
	for range 3 {
		for _, h := range []Head{{Name: "A"}, {Name: "A", Flags: 16}, {Name: ""}, {Name: "DUP", Link: 1}, {Name: "A"}} {
			checkName(t, h.Name)
			b, _ := checkBytes(t, h)
			checkRead(t, b)
			checkRead(t, append(b, 1))
		}
	}
}

func TestP901ZeroBesideErrors(t *testing.T) {
	for _, h := range []Head{{}, {Name: "a b", Link: 1}, {Name: "A", Flags: -1, Xt: 2}, {Name: "A", Flags: 16, Size: 3}} {
		if b, err := Bytes(h); len(b) != 0 || err == api.OK {
			t.Errorf("Bytes(%+v) = %q, %d", h, b, err)
		}
	}
	right, _ := modelBytes(Head{"DUP", 1, 2, 3, 4})
	for at, v := range map[int]byte{12: 16, 13: 0, 14: ' ', 16: 127, 17: 1, 19: 1} {
		b := slices.Clone(right)
		b[at] = v
		if h, n, err := Read(b); h != (Head{}) || n != 0 || err != api.ErrForm {
			t.Errorf("Read(%q) = %+v, %d, %d", b, h, n, err)
		}
	}
}

// nil and no bytes are the same, and huge arguments are answered too.
func TestP901Ends(t *testing.T) {
	failsRead(t, nil)
	failsRead(t, []byte{})
	failsRead(t, make([]byte, 0, 64))
	long := strings.Repeat("\xff", 1<<22)
	if Right(long) || Length(long) != 0 {
		t.Error("a long text is a name")
	}
	if hash := Hash(long); hash < 0 || hash >= Buckets {
		t.Errorf("the hash of a long text is %d", hash)
	}
	for _, flags := range []int{math.MinInt, math.MaxInt} {
		checkBytes(t, Head{Name: long, Flags: flags})
		checkBytes(t, Head{Name: "A", Flags: flags})
	}
	failsRead(t, []byte(long))
	b, _ := modelBytes(Head{Name: "A"})
	if h, n, err := Read(append(b, long...)); h.Name != "A" || n != 16 || err != api.OK {
		t.Errorf("Read with many bytes behind the header = %+v, %d, %d", h, n, err)
	}
}
