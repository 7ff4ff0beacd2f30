package memory

import (
	"bytes"
	"math"
	"testing"

	"swage/api"
)

// A test's name begins with the number of the promise that it holds.

// model says what a memory is, address by address.
type model struct {
	bytes []byte
	shut  []bool
}

func newModel(size int, holes ...Hole) *model {
	o := &model{make([]byte, size), make([]bool, size)}
	for _, h := range holes {
		for at := range o.shut {
			o.shut[at] = o.shut[at] || uint64(at) >= uint64(h.From) && uint64(at) < uint64(h.To)
		}
	}
	return o
}

// access returns the error of an access.
func (o *model) access(at uint32, n int) api.Errno {
	if n != 1 && n != 2 && n != 4 {
		return api.ErrArg
	}
	if uint64(at)%uint64(n) != 0 {
		return api.ErrAlign
	}
	for k := range n {
		if a := uint64(at) + uint64(k); a >= uint64(len(o.bytes)) || o.shut[a] {
			return api.ErrFault
		}
	}
	return api.OK
}

func (o *model) read(at uint32, n int) (v uint32, err api.Errno) {
	if err = o.access(at, n); err != api.OK {
		return 0, err
	}
	for k := n - 1; k >= 0; k-- {
		v = v*256 + uint32(o.bytes[int(at)+k])
	}
	return v, api.OK
}

func (o *model) write(at uint32, n int, v uint32) api.Errno {
	err := o.access(at, n)
	for k := 0; err == api.OK && k < n; k++ {
		o.bytes[int(at)+k] = byte(v)
		v /= 256
	}
	return err
}

func (o *model) put(at uint32, b []byte) api.Errno {
	if uint64(at)+uint64(len(b)) > uint64(len(o.bytes)) {
		return api.ErrFault
	}
	for k, x := range b {
		o.bytes[int(at)+k] = x
	}
	return api.OK
}

func (o *model) some(at uint32, n int) []byte {
	if n < 0 || uint64(at)+uint64(n) > uint64(len(o.bytes)) {
		return nil
	}
	return o.bytes[at:][:n]
}

// random returns words, the same ones each time.
func random() func() uint32 {
	x := uint32(2463534242)
	return func() uint32 {
		x ^= x << 13
		x ^= x >> 17
		x ^= x << 5
		return x
	}
}

func mustNew(t *testing.T, size int, holes ...Hole) *Memory {
	t.Helper()
	m, err := New(size, holes...)
	if m == nil || err != api.OK {
		t.Fatalf("New(%d, %v) = %v, %d", size, holes, m, err)
	}
	return m
}

// filled returns a memory without a byte that is 0, and its model.
func filled(t *testing.T, size int, holes ...Hole) (*Memory, *model) {
	t.Helper()
	m, o := mustNew(t, size, holes...), newModel(size, holes...)
	b := make([]byte, size)
	for k := range b {
		b[k] = byte(k%255 + 1)
	}
	if err := m.Put(0, b); err != api.OK {
		t.Fatalf("Put of all bytes = %d", err)
	}
	o.put(0, b)
	return m, o
}

// same holds all bytes and the size of a memory against its model.
func same(t *testing.T, m *Memory, o *model) {
	t.Helper()
	if m.Size() != len(o.bytes) {
		t.Fatalf("Size() = %d, want %d", m.Size(), len(o.bytes))
	}
	got := m.Bytes(0, m.Size())
	if len(got) != len(o.bytes) {
		t.Fatalf("Bytes of all = %d bytes, want %d", len(got), len(o.bytes))
	}
	for k := range got {
		if got[k] != o.bytes[k] {
			t.Fatalf("byte %d is %d, want %d", k, got[k], o.bytes[k])
		}
	}
}

func checkRead(t *testing.T, m *Memory, o *model, at uint32, n int) {
	t.Helper()
	v, err := m.Read(at, n)
	if want, code := o.read(at, n); v != want || err != code {
		t.Fatalf("Read(%d, %d) = %#x, %d, want %#x, %d", at, n, v, err, want, code)
	}
}

func checkWrite(t *testing.T, m *Memory, o *model, at uint32, n int, v uint32) {
	t.Helper()
	err := m.Write(at, n, v)
	if code := o.write(at, n, v); err != code {
		t.Fatalf("Write(%d, %d, %#x) = %d, want %d", at, n, v, err, code)
	}
}

func checkPut(t *testing.T, m *Memory, o *model, at uint32, b []byte) {
	t.Helper()
	err := m.Put(at, b)
	if code := o.put(at, b); err != code {
		t.Fatalf("Put(%d, %d bytes) = %d, want %d", at, len(b), err, code)
	}
}

func checkBytes(t *testing.T, m *Memory, o *model, at uint32, n int) {
	t.Helper()
	if got, want := m.Bytes(at, n), o.some(at, n); !bytes.Equal(got, want) {
		t.Fatalf("Bytes(%d, %d) = %v, want %v", at, n, got, want)
	}
}

// counts: every n that an access may have, and others, some of which have a right one's lowest bits.
var counts = []int{1, 2, 4, 0, 3, 5, 6, 7, 8, 16, 32, 64, -1, -2, -3, -4, -8, 1<<8 + 1, 1<<16 + 2, 1<<32 + 1, 1<<32 + 2, 1<<32 + 4, -1<<32 + 4,
	1 << 31, 1 << 32, math.MaxInt32, math.MinInt32, math.MaxInt, math.MinInt, math.MinInt + 1, math.MinInt + 4}

// places returns the addresses around the beginning, the end of size bytes, and those where 31 and 32 bits end.
func places(size int) []uint32 {
	l := []uint32{1 << 20, 1<<20 - 4, 1<<31 - 4, 1<<31 - 1, 1 << 31, 1<<31 + 4, api.Port, api.Port + 4}
	for k := range uint32(10) {
		l = append(l, k, uint32(size)+k, uint32(size)-k, math.MaxUint32-k)
	}
	return l
}

// unmade returns memories that New did not return, by their kinds.
func unmade(t *testing.T) map[string]*Memory {
	m, _ := filled(t, 64)
	byValue := *m
	return map[string]*Memory{"nil": nil, "zero": {}, "new": new(Memory), "copied by value": &byValue}
}

func TestP301NotMade(t *testing.T) {
	for kind, m := range unmade(t) {
		for _, at := range []uint32{0, 4, 63, 64, math.MaxUint32} {
			for _, n := range counts {
				if v, err := m.Read(at, n); v != 0 || err != api.ErrArg {
					t.Errorf("%s: Read(%d, %d) = %d, %d", kind, at, n, v, err)
				}
				if err := m.Write(at, n, 7); err != api.ErrArg {
					t.Errorf("%s: Write(%d, %d) = %d", kind, at, n, err)
				}
				if b := m.Bytes(at, n); len(b) != 0 {
					t.Errorf("%s: Bytes(%d, %d) = %v", kind, at, n, b)
				}
			}
			for _, b := range [][]byte{nil, {}, {1}, {1, 2, 3, 4}, make([]byte, 100)} {
				if err := m.Put(at, b); err != api.ErrArg {
					t.Errorf("%s: Put(%d, %v) = %d", kind, at, b, err)
				}
			}
		}
		if m.Size() != 0 {
			t.Errorf("%s: Size() = %d", kind, m.Size())
		}
		if c := m.Clone(); c != nil {
			t.Errorf("%s: Clone() = %v", kind, c)
		}
	}
}

// What is asked of a memory that was copied by value leaves the one that New returned as it is.
func TestP301NotMadeChangesNothing(t *testing.T) {
	m, o := filled(t, 64)
	byValue := *m
	byValue.Write(0, 4, 0)
	byValue.Put(8, []byte{0, 0})
	same(t, m, o)
	for at := range uint32(64) {
		checkRead(t, m, o, at, 1)
	}
}

func TestP301ArgumentsAreNotKept(t *testing.T) {
	holes := []Hole{{8, 12}, {20, 21}, {40, 40}}
	given := append(make([]Hole, 0, 20), holes...)
	m, o := mustNew(t, 64, given...), newModel(64, holes...)
	for k, h := range given[:cap(given)] {
		if k < len(holes) && h != holes[k] || k >= len(holes) && h != (Hole{}) {
			t.Fatalf("hole %d was changed to %v", k, h)
		}
	}
	given[0], given[1], given[2] = Hole{0, 64}, Hole{}, Hole{9, 3}
	for at := range uint32(64) {
		checkRead(t, m, o, at, 1)
	}

	b := []byte{1, 2, 3, 4, 5, 6, 7, 8}
	checkPut(t, m, o, 8, b[:4])
	checkPut(t, m, o, 30, nil)
	if !bytes.Equal(b, []byte{1, 2, 3, 4, 5, 6, 7, 8}) {
		t.Fatalf("Put changed its argument to %v", b)
	}
	for k := range b {
		b[k] = 99
	}
	same(t, m, o)
	m.Put(8, []byte{50, 51, 52, 53})
	if b[0] != 99 {
		t.Fatal("a Put wrote to the argument of the one before")
	}
}

func TestP301ResultsShareNothing(t *testing.T) {
	m, o := filled(t, 64)
	first, second := m.Bytes(8, 16), m.Bytes(8, 16)
	for k := range first[:cap(first)] {
		first[:cap(first)][k] = 200
	}
	_ = append(first, 201, 202, 203)
	same(t, m, o)
	if !bytes.Equal(second, o.some(8, 16)) {
		t.Fatal("two results share memory")
	}
	checkPut(t, m, o, 8, make([]byte, 16))
	checkWrite(t, m, o, 8, 4, 0x01020304)
	if first[0] != 200 || second[0] != 9 {
		t.Fatal("a result changes with the memory")
	}
	_ = append(m.Bytes(16, 0), 204)
	same(t, m, o)
}

func TestP301TwoMemoriesShareNothing(t *testing.T) {
	a, o := filled(t, 64)
	b, p := mustNew(t, 64), newModel(64)
	checkWrite(t, b, p, 12, 4, 0x55667788)
	same(t, a, o)
	checkWrite(t, a, o, 16, 4, 0x11223344)
	same(t, b, p)
}

// What one call answers hangs on the calls before it alone: the same calls answer the same.
func TestP301Repeatable(t *testing.T) {
	ask := func() (l []any) {
		m := mustNew(t, 256, Hole{16, 32}, Hole{100, 103})
		next := random()
		for range 2000 {
			at, n := next()%264, counts[next()%5]
			v, err := m.Read(at, n)
			l = append(l, m.Write(at, n, next()), v, err, string(m.Bytes(at, n)), m.Size())
		}
		return l
	}
	first, second := ask(), ask()
	for k := range first {
		if first[k] != second[k] {
			t.Fatalf("answer %d: %v, then %v", k, first[k], second[k])
		}
	}
}

func TestP302NewSizes(t *testing.T) {
	for _, size := range []int{4, 8, 12, 60, 64, 65536, api.MaxMemory - 4, api.MaxMemory} {
		m := mustNew(t, size)
		same(t, m, newModel(size)) // all 0
		last := uint32(size) - 4
		if err := m.Write(last, 4, 0xa1b2c3d4); err != api.OK {
			t.Errorf("size %d: Write of the last word = %d", size, err)
		}
		if v, err := m.Read(last, 4); v != 0xa1b2c3d4 || err != api.OK {
			t.Errorf("size %d: the last word is %#x, %d", size, v, err)
		}
		if v, err := m.Read(last+4, 1); v != 0 || err != api.ErrFault {
			t.Errorf("size %d: the byte behind the last is %#x, %d", size, v, err)
		}
	}
	for _, size := range []int{0, 1, 2, 3, 5, 6, 7, 9, 10, 62, 63, 65, -1, -2, -4, -8, -64, api.MaxMemory - 1, api.MaxMemory - 2, api.MaxMemory + 1,
		api.MaxMemory + 4, 2 * api.MaxMemory, 1 << 31, 1 << 32, 1<<32 + 64, math.MinInt32, math.MinInt, math.MaxInt, math.MaxInt - 3} {
		for _, holes := range [][]Hole{nil, {}, {{0, 4}}} {
			if m, err := New(size, holes...); m != nil || err != api.ErrArg {
				t.Errorf("New(%d, %v) = %v, %d", size, holes, m, err)
			}
		}
	}
}

func TestP302NewHoles(t *testing.T) {
	many := make([]Hole, 16)
	for k := range many {
		many[k] = Hole{uint32(k) * 4, uint32(k)*4 + 3}
	}
	for _, holes := range [][]Hole{
		nil, {}, {{0, 0}}, {{7, 7}}, {{0, 1}}, {{0, 64}}, {{63, 64}}, {{64, 64}}, {{64, 80}}, {{60, 100}}, {{100, 200}},
		{{0, math.MaxUint32}}, {{math.MaxUint32, math.MaxUint32}}, {{math.MaxUint32 - 1, math.MaxUint32}}, {{1 << 31, 1<<31 + 1}}, {{62, 1 << 31}},
		{{4, 8}, {4, 8}}, {{4, 12}, {8, 16}}, {{16, 20}, {4, 8}}, many, many[:15], make([]Hole, 16),
	} {
		m, o := filled(t, 64, holes...)
		for _, at := range append(places(64), 20, 21, 30, 31, 40, 50) {
			for _, n := range counts {
				checkRead(t, m, o, at, n)
			}
		}
		same(t, m, o)
	}
	for _, holes := range [][]Hole{
		{{1, 0}}, {{8, 4}}, {{64, 63}}, {{math.MaxUint32, 0}}, {{math.MaxUint32, math.MaxUint32 - 1}}, {{1 << 31, 1<<31 - 1}}, {{200, 100}},
		{{0, 4}, {9, 8}}, {{9, 8}, {0, 4}}, {{0, 4}, {9, 8}, {12, 16}},
		append(append([]Hole{}, many[:15]...), Hole{5, 4}), append(append([]Hole{}, many...), Hole{60, 64}),
		append(append([]Hole{}, many...), many[0]), make([]Hole, 17), make([]Hole, 1000),
	} {
		if m, err := New(64, holes...); m != nil || err != api.ErrArg {
			t.Errorf("New(64, %v) = %v, %d", holes, m, err)
		}
	}
}

// Every hole of a small memory, and every access: those that it touches with their first, their last
// or an inner byte, those that lie inside it, and those beside it.
func TestP302AccessesByHoles(t *testing.T) {
	const size = 12
	for from := range uint32(size + 3) {
		for to := from; to < size+3; to++ {
			m, o := filled(t, size, Hole{from, to})
			for at := range uint32(size + 6) {
				for _, n := range []int{1, 2, 3, 4} {
					checkRead(t, m, o, at, n)
					checkWrite(t, m, o, at, n, 0xf1e2d3c4)
				}
			}
			same(t, m, o)
		}
	}
}

// Each of sixteen holes counts, the last as the first, and so where several are touched by one access.
func TestP302EachHoleCounts(t *testing.T) {
	for k := range uint32(16) {
		holes := make([]Hole, 16)
		holes[k] = Hole{20 + k, 21 + k}
		m, o := filled(t, 64, holes...)
		for at := range uint32(64) {
			for _, n := range []int{1, 2, 4} {
				checkRead(t, m, o, at, n)
			}
		}
		same(t, m, o)
	}
	m, o := filled(t, 64, Hole{8, 9}, Hole{11, 12}, Hole{13, 15}, Hole{14, 18}, Hole{24, 24})
	for at := range uint32(64) {
		for _, n := range []int{1, 2, 4} {
			checkWrite(t, m, o, at, n, 0xf1e2d3c4)
		}
	}
	same(t, m, o)
}

func TestP302Counts(t *testing.T) {
	for _, holes := range [][]Hole{nil, {{8, 12}}, {{0, 64}}} {
		m, o := filled(t, 64, holes...)
		for _, at := range places(64) {
			for _, n := range counts {
				checkRead(t, m, o, at, n)
				checkWrite(t, m, o, at, n, 0x89abcdef)
			}
		}
		same(t, m, o)
	}
}

// Near 2^32 an address and a number of bytes go beyond 32 bits, and would be small again.
func TestP302NoWrapRound(t *testing.T) {
	for _, size := range []int{4, 64, api.MaxMemory} {
		m := mustNew(t, size)
		for _, at := range []uint32{math.MaxUint32 - 3, math.MaxUint32 - 7, 1 << 31, math.MaxUint32/4*4 - 64, api.Port} {
			if v, err := m.Read(at, 4); v != 0 || err != api.ErrFault {
				t.Errorf("size %d: Read(%#x, 4) = %d, %d", size, at, v, err)
			}
		}
		for at := uint32(math.MaxUint32 - 9); at != 0; at++ {
			for _, n := range []int{0, 1, 2, 4, 10, 11, size, math.MaxInt32, math.MaxInt - 10, math.MaxInt} {
				if b := m.Bytes(at, n); len(b) != 0 {
					t.Errorf("size %d: Bytes(%#x, %d) has %d bytes", size, at, n, len(b))
				}
			}
			for _, n := range []int{0, 1, 2, 4, 10, 11} {
				if err := m.Put(at, make([]byte, n)); err != api.ErrFault {
					t.Errorf("size %d: Put(%#x, %d bytes) = %d", size, at, n, err)
				}
			}
		}
	}
}

func TestP302OrderOfErrors(t *testing.T) {
	m := mustNew(t, 64, Hole{8, 16})
	for _, c := range []struct {
		at   uint32
		n    int
		want api.Errno
	}{
		{9, 3, api.ErrArg}, {65, 3, api.ErrArg}, {9, 0, api.ErrArg}, {math.MaxUint32, 8, api.ErrArg}, {8, 8, api.ErrArg}, {64, 0, api.ErrArg}, {64, -4, api.ErrArg},
		{9, 2, api.ErrAlign}, {9, 4, api.ErrAlign}, {10, 4, api.ErrAlign}, {7, 2, api.ErrAlign}, {62, 4, api.ErrAlign}, {63, 2, api.ErrAlign}, {65, 2, api.ErrAlign},
		{66, 4, api.ErrAlign}, {math.MaxUint32, 2, api.ErrAlign}, {math.MaxUint32 - 1, 4, api.ErrAlign}, {1<<31 + 1, 4, api.ErrAlign},
		{8, 1, api.ErrFault}, {9, 1, api.ErrFault}, {14, 2, api.ErrFault}, {12, 4, api.ErrFault}, {64, 1, api.ErrFault}, {64, 2, api.ErrFault}, {64, 4, api.ErrFault},
		{math.MaxUint32, 1, api.ErrFault}, {math.MaxUint32 - 1, 2, api.ErrFault}, {math.MaxUint32 - 3, 4, api.ErrFault},
		{7, 1, api.OK}, {6, 2, api.OK}, {4, 4, api.OK}, {16, 4, api.OK}, {60, 4, api.OK}, {62, 2, api.OK}, {63, 1, api.OK},
	} {
		if v, err := m.Read(c.at, c.n); v != 0 || err != c.want {
			t.Errorf("Read(%d, %d) = %d, %d, want 0, %d", c.at, c.n, v, err, c.want)
		}
		if err := m.Write(c.at, c.n, 0); err != c.want {
			t.Errorf("Write(%d, %d) = %d, want %d", c.at, c.n, err, c.want)
		}
	}
}

func TestP302Read(t *testing.T) {
	m, _ := filled(t, 64) // the byte at an address is the address plus 1
	for _, c := range []struct {
		at   uint32
		n    int
		want uint32
	}{
		{0, 1, 0x01}, {0, 2, 0x0201}, {0, 4, 0x04030201}, {1, 1, 0x02}, {2, 2, 0x0403}, {3, 1, 0x04}, {8, 4, 0x0c0b0a09},
		{60, 4, 0x403f3e3d}, {62, 2, 0x403f}, {63, 1, 0x40},
	} {
		if v, err := m.Read(c.at, c.n); v != c.want || err != api.OK {
			t.Errorf("Read(%d, %d) = %#x, %d, want %#x", c.at, c.n, v, err, c.want)
		}
	}
	m.Put(4, []byte{0xff, 0xfe, 0x80, 0x81})
	for _, c := range []struct {
		at   uint32
		n    int
		want uint32
	}{{4, 1, 0xff}, {4, 2, 0xfeff}, {6, 2, 0x8180}, {7, 1, 0x81}, {4, 4, 0x8180feff}} { // no sign is extended
		if v, err := m.Read(c.at, c.n); v != c.want || err != api.OK {
			t.Errorf("Read(%d, %d) = %#x, %d, want %#x", c.at, c.n, v, err, c.want)
		}
	}
}

func TestP302Write(t *testing.T) {
	for _, c := range []struct {
		at   uint32
		n    int
		v    uint32
		want []byte // what stands at 4 then
	}{
		{4, 1, 0x01020304, []byte{4, 6, 7, 8, 9, 10, 11, 12}},
		{5, 1, 0xffffff00, []byte{5, 0, 7, 8, 9, 10, 11, 12}},
		{4, 2, 0x01020304, []byte{4, 3, 7, 8, 9, 10, 11, 12}},
		{6, 2, 0xffff0000, []byte{5, 6, 0, 0, 9, 10, 11, 12}},
		{4, 4, 0x01020304, []byte{4, 3, 2, 1, 9, 10, 11, 12}},
		{8, 4, 0xfffefdfc, []byte{5, 6, 7, 8, 0xfc, 0xfd, 0xfe, 0xff}},
		{4, 4, 0, []byte{0, 0, 0, 0, 9, 10, 11, 12}},
	} {
		m, o := filled(t, 64)
		o.put(4, c.want)
		if err := m.Write(c.at, c.n, c.v); err != api.OK {
			t.Errorf("Write(%d, %d, %#x) = %d", c.at, c.n, c.v, err)
		}
		same(t, m, o)
	}
}

func TestP302Bytes(t *testing.T) {
	for _, holes := range [][]Hole{nil, {{8, 12}, {63, 64}}, {{0, 64}}} {
		m, o := filled(t, 64, holes...)
		for at := range uint32(70) {
			for n := -2; n < 70; n++ {
				checkBytes(t, m, o, at, n)
			}
		}
		for _, at := range places(64) {
			for _, n := range counts {
				checkBytes(t, m, o, at, n)
			}
		}
		same(t, m, o)
	}
	m := mustNew(t, api.MaxMemory)
	if n := len(m.Bytes(0, api.MaxMemory)); n != api.MaxMemory {
		t.Errorf("Bytes of all of the greatest memory has %d bytes", n)
	}
	if b := m.Bytes(0, api.MaxMemory+1); len(b) != 0 {
		t.Errorf("Bytes of one more has %d bytes", len(b))
	}
}

func TestP302Put(t *testing.T) {
	b := make([]byte, 70)
	for k := range b {
		b[k] = byte(100 + k)
	}
	for _, holes := range [][]Hole{nil, {{8, 12}, {63, 64}}, {{0, 64}}} {
		for at := range uint32(70) {
			for n := range b {
				m, o := filled(t, 64, holes...)
				checkPut(t, m, o, at, b[:n])
				same(t, m, o)
			}
		}
		m, o := filled(t, 64, holes...)
		for _, at := range places(64) {
			for _, l := range [][]byte{nil, {}, {7}, {7, 8, 9}, b, make([]byte, 65536)} {
				checkPut(t, m, o, at, l)
			}
		}
		same(t, m, o)
	}
}

// Of no bytes, Put is refused only beyond the end: at the end, the sum is not greater than the size.
func TestP302PutNoBytes(t *testing.T) {
	m, o := filled(t, 64)
	for at, want := range map[uint32]api.Errno{0: api.OK, 63: api.OK, 64: api.OK, 65: api.ErrFault, math.MaxUint32: api.ErrFault} {
		for _, b := range [][]byte{nil, {}} {
			if err := m.Put(at, b); err != want {
				t.Errorf("Put(%d, %v) = %d, want %d", at, b, err, want)
			}
		}
	}
	same(t, m, o)
}

func TestP302Size(t *testing.T) {
	for _, size := range []int{4, 8, 64, api.MaxMemory} {
		m := mustNew(t, size, Hole{0, 4}, Hole{2, 1 << 30})
		m.Put(0, []byte{1, 2, 3, 4})
		if m.Size() != size || m.Clone().Size() != size {
			t.Errorf("Size() = %d, of the clone %d, want %d", m.Size(), m.Clone().Size(), size)
		}
	}
}

func TestP302Clone(t *testing.T) {
	for _, holes := range [][]Hole{nil, {{8, 12}, {63, 64}, {30, 30}}, make([]Hole, 16)} {
		m, o := filled(t, 64, holes...)
		c := m.Clone()
		if c == nil || c == m {
			t.Fatalf("Clone() = %v", c)
		}
		p := newModel(64, holes...)
		p.put(0, o.bytes)
		same(t, c, p)
		for at := range uint32(66) {
			checkRead(t, c, p, at, 1)
			checkRead(t, c, p, at, 4)
		}

		checkPut(t, c, p, 8, []byte{201, 202})
		checkWrite(t, c, p, 20, 4, 0)
		same(t, m, o)
		checkPut(t, m, o, 9, []byte{203, 204})
		checkWrite(t, m, o, 24, 4, 0)
		same(t, c, p)

		d := c.Clone() // a clone is cloned as well
		checkWrite(t, c, p, 28, 4, 0)
		if v, err := d.Read(28, 4); v != 0x201f1e1d || err != api.OK {
			t.Errorf("the clone's clone: Read(28, 4) = %#x, %d", v, err)
		}
	}
}

func TestP302Examples(t *testing.T) {
	if m, err := New(6); m != nil || err != api.ErrArg {
		t.Errorf("New(6) = %v, %d", m, err)
	}
	m := mustNew(t, 64)
	m.Write(0, 4, 258)
	if v, err := m.Read(0, 1); v != 2 || err != api.OK {
		t.Errorf("Read(0, 1) = %d, %d", v, err)
	}
	m.Write(4, 4, 0x01020304)
	if v, err := m.Read(6, 2); v != 0x0102 || err != api.OK {
		t.Errorf("Read(6, 2) = %#x, %d", v, err)
	}
	if a, b, c := m.Write(2, 4, 1), m.Write(64, 1, 1), m.Write(64, 3, 1); a != api.ErrAlign || b != api.ErrFault || c != api.ErrArg {
		t.Errorf("Write of 4 at 2, 1 at 64, 3 at 64: %d, %d, %d", a, b, c)
	}
	if b := m.Bytes(62, 3); len(b) != 0 {
		t.Errorf("Bytes(62, 3) = %v", b)
	}
	if err := m.Put(62, []byte{1, 2, 3}); err != api.ErrFault {
		t.Errorf("Put(62, 3 bytes) = %d", err)
	}
	before := m.Bytes(0, 64)
	m.Clone().Put(0, []byte{9, 9, 9})
	if !bytes.Equal(m.Bytes(0, 64), before) {
		t.Error("a Put to the clone changes the original")
	}
}

// Each access by itself: the value is read back by every way of reading it, and nothing else has changed.
func TestP303ReadBack(t *testing.T) {
	for _, n := range []int{1, 2, 4} {
		for at := uint32(0); at < 64; at += uint32(n) {
			for _, v := range []uint32{0, 1, 0x80, 0xff, 0x8000, 0xffff, 0x12345678, 1 << 31, math.MaxUint32} {
				m, o := filled(t, 64)
				checkWrite(t, m, o, at, n, v)
				if got, err := m.Read(at, n); got != v&uint32(1<<(8*n)-1) || err != api.OK {
					t.Fatalf("Read(%d, %d) after Write of %#x = %#x, %d", at, n, v, got, err)
				}
				same(t, m, o)
			}
		}
	}
}

// Long mixed runs, with accesses that are refused among them.
func TestP303Mixed(t *testing.T) {
	next := random()
	for _, holes := range [][]Hole{nil, {{16, 32}}, {{3, 5}, {40, 41}, {90, 200}}, {{0, 2}, {7, 7}, {50, 51}, {51, 60}, {55, 58}}} {
		m, o := filled(t, 96, holes...)
		for range 20000 {
			at, n := next()%104, counts[next()%4]
			switch next() % 5 {
			case 0, 1:
				checkWrite(t, m, o, at, n, next())
			case 2:
				checkRead(t, m, o, at, n)
			case 3:
				b := make([]byte, next()%12)
				for k := range b {
					b[k] = byte(next())
				}
				checkPut(t, m, o, at, b)
			case 4:
				checkBytes(t, m, o, at, int(next()%20)-2)
			}
			same(t, m, o)
		}
	}
}

func TestP304RefusedChangesNothing(t *testing.T) {
	for _, holes := range [][]Hole{nil, {{8, 12}, {21, 22}, {63, 64}}, {{0, 64}}} {
		m, o := filled(t, 64, holes...)
		for at := range uint32(72) {
			for _, n := range counts {
				if o.access(at, n) == api.OK {
					continue
				}
				if err := m.Write(at, n, 0); err == api.OK {
					t.Fatalf("Write(%d, %d) is not refused", at, n)
				}
				if v, err := m.Read(at, n); v != 0 || err == api.OK {
					t.Fatalf("Read(%d, %d) = %d, %d", at, n, v, err)
				}
				same(t, m, o)
			}
			for _, n := range []int{65 - min(int(at), 64), 65, 1000} {
				if err := m.Put(at, make([]byte, n)); err != api.ErrFault {
					t.Fatalf("Put(%d, %d bytes) = %d", at, n, err)
				}
				if b := m.Bytes(at, n); len(b) != 0 {
					t.Fatalf("Bytes(%d, %d) = %v", at, n, b)
				}
			}
			same(t, m, o)
		}
	}
}
