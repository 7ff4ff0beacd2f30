package port

import (
	"bytes"
	"math"
	"testing"

	"swage/api"
)

// A test's name begins with the number of the promise that it holds.

const none = math.MaxUint32

// model says what a port is, list by list.
type model struct {
	in, out []byte
	codes   []uint32
}

func newModel(input []byte) *model {
	return &model{in: bytes.Clone(input)}
}

func (o *model) take() uint32 {
	if len(o.in) == 0 {
		return none
	}
	b := o.in[0]
	o.in = o.in[1:]
	return uint32(b)
}

func (o *model) write(v uint32) {
	if len(o.out) < api.MaxOutput {
		o.out = append(o.out, byte(v%256))
	}
}

func (o *model) halt(v uint32) {
	o.codes = append(o.codes, v)
}

func (o *model) halted() (uint32, bool) {
	if len(o.codes) == 0 {
		return 0, false
	}
	return o.codes[0], true
}

func mustNew(t *testing.T, input []byte) *Port {
	t.Helper()
	p, err := New(input)
	if p == nil || err != api.OK {
		t.Fatalf("New of %d bytes = %v, %d", len(input), p, err)
	}
	return p
}

// both returns a port with this input, and its model.
func both(t *testing.T, input []byte) (*Port, *model) {
	t.Helper()
	return mustNew(t, input), newModel(input)
}

// some returns n bytes of which neighbours differ, and so do those that lie 256 or 65536 apart.
func some(n int) []byte {
	b := make([]byte, n)
	for k := range b {
		b[k] = byte(k + k>>8*3 + k>>16*7)
	}
	return b
}

// random returns words, the same ones each time.
func random() func() uint32 {
	x := uint32(2463534242)
	return func() uint32 {
		x ^= x << 13
		x ^= x >> 17
		x ^= x << 5
		return x
	}
}

// same holds all that can be looked at, without a change, against the model.
func same(t *testing.T, p *Port, o *model) {
	t.Helper()
	sameButOutput(t, p, o)
	if got := p.Output(); !bytes.Equal(got, o.out) {
		t.Fatalf("Output() = %d bytes %.40q, want %d bytes %.40q", len(got), got, len(o.out), o.out)
	}
}

func sameButOutput(t *testing.T, p *Port, o *model) {
	t.Helper()
	if p.Left() != len(o.in) {
		t.Fatalf("Left() = %d, want %d", p.Left(), len(o.in))
	}
	v, ok := p.Halted()
	if code, halted := o.halted(); v != code || ok != halted {
		t.Fatalf("Halted() = %d, %v, want %d, %v", v, ok, code, halted)
	}
}

func checkIn(t *testing.T, p *Port, o *model) {
	t.Helper()
	left := len(o.in)
	if got, want := p.In(), o.take(); got != want {
		t.Fatalf("In() with %d bytes left = %d, want %d", left, got, want)
	}
}

func checkOut(t *testing.T, p *Port, o *model, values ...uint32) {
	t.Helper()
	for _, v := range values {
		p.Out(v)
		o.write(v)
	}
	sameButOutput(t, p, o)
}

func checkHalt(t *testing.T, p *Port, o *model, v uint32) {
	t.Helper()
	p.Halt(v)
	o.halt(v)
	sameButOutput(t, p, o)
}

// words: those around the ends of a byte, of 16, 31 and 32 bits.
var words = []uint32{0, 1, 3, 4, 127, 128, 255, 256, 257, 0x179, 0x200, 0xff00, 1<<16 - 1, 1 << 16, 0x12345678, 0x89abcdef,
	1<<31 - 1, 1 << 31, api.Port, 0xffffff80, none - 1, none}

// unmade returns ports that New did not return, by their kinds.
func unmade(t *testing.T) map[string]*Port {
	p, o := both(t, []byte("hidden"))
	checkOut(t, p, o, 'a', 'b')
	checkHalt(t, p, o, 5)
	byValue := *p
	return map[string]*Port{"nil": nil, "zero": {}, "new": new(Port), "copied by value": &byValue}
}

func TestP401NotMade(t *testing.T) {
	for kind, p := range unmade(t) {
		for _, v := range words {
			if got := p.In(); got != 0 {
				t.Errorf("%s: In() = %d", kind, got)
			}
			p.Out(v)
			if b := p.Output(); len(b) != 0 {
				t.Errorf("%s: Output() after Out(%d) = %q", kind, v, b)
			}
			p.Halt(v)
			if code, ok := p.Halted(); code != 0 || ok {
				t.Errorf("%s: Halted() after Halt(%d) = %d, %v", kind, v, code, ok)
			}
			if n := p.Left(); n != 0 {
				t.Errorf("%s: Left() = %d", kind, n)
			}
		}
	}
}

// What is asked of a port that was copied by value leaves the one that New returned as it is.
func TestP401NotMadeChangesNothing(t *testing.T) {
	p, o := both(t, []byte("hi"))
	checkOut(t, p, o, 'x')
	byValue := *p
	byValue.In()
	byValue.Out('y')
	byValue.Halt(7)
	same(t, p, o)
	checkOut(t, p, o, 'z')
	same(t, p, o)
	for range 3 {
		checkIn(t, p, o)
	}
}

func TestP401InputIsNotKeptNorChanged(t *testing.T) {
	for _, n := range []int{1, 2, 100, api.MaxInput} {
		given := some(n + 50)
		p, o := both(t, given[:n])
		if !bytes.Equal(given, some(n+50)) {
			t.Fatalf("New changed its argument of %d bytes", n)
		}
		for k := range given {
			given[k] = 99
		}
		for range n/2 + 1 {
			checkIn(t, p, o)
			checkOut(t, p, o, 'x')
		}
		for k := range given {
			given[k] = 77
		}
		for range n/2 + 1 {
			checkIn(t, p, o)
		}
		same(t, p, o)
		for k, b := range given {
			if b != 77 {
				t.Fatalf("byte %d of the argument was changed to %d", k, b)
			}
		}
	}
}

func TestP401ResultsShareNothing(t *testing.T) {
	p, o := both(t, []byte("hello"))
	_ = append(p.Output(), 'n')
	same(t, p, o)
	checkOut(t, p, o, 'a', 'b', 'c')
	first, second := p.Output(), p.Output()
	for k := range first[:cap(first)] {
		first[:cap(first)][k] = 200
	}
	_ = append(first[:3], 201, 202)
	same(t, p, o)
	if string(second) != "abc" {
		t.Fatalf("two results share memory: %q", second)
	}
	checkOut(t, p, o, 'd', 'e')
	_ = append(second, 'n', 'n')
	same(t, p, o)
	if first[0] != 200 || string(second) != "abc" {
		t.Fatalf("a result changes with the port: %q, %q", first, second)
	}
	for range 6 {
		checkIn(t, p, o)
	}
}

func TestP401TwoPortsShareNothing(t *testing.T) {
	input := []byte("hello")
	a, o := both(t, input)
	b, q := both(t, input)
	checkIn(t, a, o)
	checkOut(t, a, o, 'x', 'y')
	checkHalt(t, a, o, 3)
	same(t, b, q)
	checkOut(t, b, q, 'z')
	same(t, a, o)
	for range 7 {
		checkIn(t, b, q)
		same(t, a, o)
	}
	checkHalt(t, b, q, 4)
	same(t, a, o)
	for range 7 {
		checkIn(t, a, o)
	}
	same(t, a, o)
	same(t, b, q)
}

// What one call answers hangs on the calls before it alone: the same calls answer the same.
func TestP401Repeatable(t *testing.T) {
	ask := func() (l []any) {
		p := mustNew(t, some(500))
		next := random()
		for k := range 1000 {
			p.Out(next())
			if k > 700 {
				p.Halt(next())
			}
			code, ok := p.Halted()
			l = append(l, p.In(), string(p.Output()), code, ok, p.Left())
		}
		return l
	}
	first, second := ask(), ask()
	for k := range first {
		if first[k] != second[k] {
			t.Fatalf("answer %d: %v, then %v", k, first[k], second[k])
		}
	}
}

func TestP402New(t *testing.T) {
	for _, input := range [][]byte{nil, {}, {0}, {97}, {255}, []byte("hi"), make([]byte, 300), some(256), some(api.MaxInput - 1), some(api.MaxInput)} {
		p, o := both(t, input)
		same(t, p, o)
	}
	for _, n := range []int{api.MaxInput + 1, api.MaxInput + 2, 2 * api.MaxInput, 1 << 20} {
		if p, err := New(make([]byte, n)); p != nil || err != api.ErrArg {
			t.Errorf("New of %d bytes = %v, %d", n, p, err)
		}
	}
	// Length counts, not capacity.
	same(t, mustNew(t, make([]byte, api.MaxInput+10)[:2]), newModel(make([]byte, 2)))
}

func TestP402In(t *testing.T) {
	p, o := both(t, []byte("hi"))
	for _, want := range []uint32{'h', 'i', none, none, none} {
		if got := p.In(); got != want || got != o.take() {
			t.Errorf("In() = %d, want %d", got, want)
		}
		same(t, p, o)
	}
	for _, input := range [][]byte{nil, {}, {0}, {255}, {0, 0}, {255, 255, 255, 255}, some(257)} {
		p, o := both(t, input)
		for range len(input) + 1000 {
			checkIn(t, p, o)
		}
		same(t, p, o)
	}
}

func TestP402Out(t *testing.T) {
	p := mustNew(t, nil)
	p.Out('x')
	p.Out(0x179)
	if got := p.Output(); string(got) != "xy" {
		t.Errorf("Output() = %q", got)
	}
	for _, v := range words {
		p, o := both(t, []byte("a"))
		checkOut(t, p, o, v)
		same(t, p, o)
	}
	for v := range uint32(600) {
		p, o := both(t, nil)
		checkOut(t, p, o, v, v+256, v<<8, ^v)
		same(t, p, o)
	}
}

func TestP402OutIsBounded(t *testing.T) {
	p, o := both(t, []byte("hi"))
	for k, b := range some(api.MaxOutput - 1) {
		checkOut(t, p, o, uint32(b)+uint32(k)<<8)
	}
	same(t, p, o)
	if n := len(p.Output()); n != api.MaxOutput-1 {
		t.Fatalf("%d bytes of output", n)
	}
	checkOut(t, p, o, 'L')
	same(t, p, o)
	full := p.Output()
	if len(full) != api.MaxOutput || full[api.MaxOutput-1] != 'L' || full[0] != 0 || full[1] != 1 {
		t.Fatalf("%d bytes of output, the last %d", len(full), full[len(full)-1])
	}
	for _, v := range append(words, words...) {
		p.Out(v)
		same(t, p, o)
	}
	for range api.MaxOutput {
		p.Out('M')
	}
	if !bytes.Equal(p.Output(), full) {
		t.Fatal("Out beyond the end changes the output")
	}
	checkIn(t, p, o)
	checkHalt(t, p, o, 9)
	p.Out('N')
	same(t, p, o)
}

func TestP402Halt(t *testing.T) {
	p := mustNew(t, []byte("hi"))
	for range 3 {
		if v, ok := p.Halted(); v != 0 || ok {
			t.Errorf("Halted() before any Halt = %d, %v", v, ok)
		}
	}
	p.Halt(3)
	p.Halt(4)
	if v, ok := p.Halted(); v != 3 || !ok {
		t.Errorf("Halted() after Halt(3) and Halt(4) = %d, %v", v, ok)
	}
	for _, first := range words {
		for _, second := range words {
			p, o := both(t, []byte("a"))
			checkHalt(t, p, o, first)
			same(t, p, o)
			checkHalt(t, p, o, second)
			checkHalt(t, p, o, first+1)
			same(t, p, o)
		}
	}
}

// Halt(0) halts as any other does.
func TestP402HaltZero(t *testing.T) {
	p := mustNew(t, nil)
	p.Halt(0)
	if v, ok := p.Halted(); v != 0 || !ok {
		t.Errorf("Halted() after Halt(0) = %d, %v", v, ok)
	}
	p.Halt(1)
	if v, ok := p.Halted(); v != 0 || !ok {
		t.Errorf("Halted() after Halt(0) and Halt(1) = %d, %v", v, ok)
	}
}

func TestP402Left(t *testing.T) {
	if n := mustNew(t, []byte("hi")).Left(); n != 2 {
		t.Errorf("Left() of hi = %d", n)
	}
	for _, input := range [][]byte{nil, {}, {0}, []byte("hi"), some(300), some(api.MaxInput)} {
		p := mustNew(t, input)
		for k := range input {
			for range 2 {
				if n := p.Left(); n != len(input)-k {
					t.Fatalf("Left() after %d of %d bytes = %d", k, len(input), n)
				}
			}
			p.In()
		}
		for range 10 {
			if n := p.Left(); n != 0 {
				t.Fatalf("Left() beyond %d bytes = %d", len(input), n)
			}
			p.In()
		}
	}
}

// A look changes nothing, nor does what is done when nothing is to be done.
func TestP402NothingDone(t *testing.T) {
	p, o := both(t, []byte("h"))
	for _, v := range words {
		for range 3 {
			p.Halted()
			p.Output()
			p.Left()
			same(t, p, o)
		}
		checkIn(t, p, o) // from the second on at the end
		checkHalt(t, p, o, v)
		checkOut(t, p, o, v)
	}
	same(t, p, o)
	for range api.MaxOutput - len(words) {
		p.Out('x')
		o.write('x')
	}
	for _, v := range words {
		p.Out(v)
		p.Halt(v)
		checkIn(t, p, o)
		same(t, p, o)
	}
}

func TestP403Each(t *testing.T) {
	for _, n := range []int{0, 1, 2, 255, 256, 257, 4096, api.MaxInput - 1, api.MaxInput} {
		p, o := both(t, some(n))
		for range n + 3 {
			checkIn(t, p, o)
		}
		same(t, p, o)
	}
}

// A port that writes what it reads has written its input in the end.
func TestP403Echo(t *testing.T) {
	input := some(api.MaxInput)
	p := mustNew(t, input)
	for b := p.In(); b != none; b = p.In() {
		p.Out(b)
	}
	if !bytes.Equal(p.Output(), input) {
		t.Fatal("the output differs from the input")
	}
}

// In, Out and Halt are mixed in any order, and none of them hinders another.
func TestP403Mixed(t *testing.T) {
	next := random()
	for round := range 300 {
		p, o := both(t, some(round))
		for range 2 * round {
			switch r := next() % 100; {
			case r < 45:
				checkIn(t, p, o)
			case r < 98:
				checkOut(t, p, o, next())
			default:
				checkHalt(t, p, o, next()%3)
			}
			sameButOutput(t, p, o)
		}
		same(t, p, o)
	}
}

// Every order of a few calls.
func TestP403EveryOrder(t *testing.T) {
	const orders = 3 * 3 * 3 * 3 * 3 * 3 * 3
	for order := range orders {
		p, o := both(t, []byte("abc"))
		for k := order + orders; k > 1; k /= 3 { // the place above the highest ends the order
			switch k % 3 {
			case 0:
				checkIn(t, p, o)
			case 1:
				checkOut(t, p, o, uint32(k))
			case 2:
				checkHalt(t, p, o, uint32(k))
			}
			same(t, p, o)
		}
	}
}

func TestP403Example(t *testing.T) {
	p := mustNew(t, []byte("a"))
	if v := p.In(); v != 97 {
		t.Errorf("In() = %d", v)
	}
	if v := p.In(); v != 4294967295 {
		t.Errorf("In() at the end = %d", v)
	}
}
