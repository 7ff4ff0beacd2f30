package bits

import (
	"math"
	"math/big"
	"testing"
)

// Remarks name the promises that a test holds.

const top = uint32(1) << 31

var edges = []uint32{0, 1, 2, 3, 7, 10, 31, 32, 33, 0x7ff, 0x800, 0xffff, 0x10000, 0x55555555, 0xaaaaaaaa,
	top - 2, top - 1, top, top + 1, 1<<32 - 10, 1<<32 - 7, 1<<32 - 3, 1<<32 - 2, 1<<32 - 1}

// words returns the edges and more words, the same ones each time.
func words() []uint32 {
	l := append([]uint32(nil), edges...)
	x := uint32(12345)
	for i := range 40 {
		x = x*1664525 + 1013904223
		l = append(l, x>>(i%5*6)) // short ones too
	}
	return l
}

func doubles() []uint64 {
	l := []uint64{1<<63 - 1, 1 << 63, 1<<63 + 1, 1<<62 - 1, 1 << 62, 3 << 62}
	for _, lo := range words() {
		l = append(l, uint64(lo), -uint64(lo))
		for _, hi := range edges {
			l = append(l, uint64(hi)<<32+uint64(lo))
		}
	}
	return l
}

func pairs(t *testing.T, check func(a, b uint32)) {
	t.Helper()
	for _, a := range words() {
		for _, b := range words() {
			check(a, b)
		}
	}
}

func unsignedBig(v uint64) *big.Int { return new(big.Int).SetUint64(v) }

func signedBig(a uint32) *big.Int { return big.NewInt(int64(int32(a))) }

// low returns the lowest 64 bits of x, in two's complement.
func low(x *big.Int) uint64 {
	return new(big.Int).And(x, unsignedBig(math.MaxUint64)).Uint64()
}

func TestP101Pure(t *testing.T) {
	for _, w := range words() {
		for _, n := range []int{math.MinInt, -1, 0, 1, 31, 32, 33, 64, math.MaxInt} {
			for _, m := range []int{math.MinInt, -1, 0, 1, 31, 32, 33, 64, math.MaxInt} {
				if Field(w, n, m) != Field(w, n, m) {
					t.Errorf("Field(%#x, %d, %d)", w, n, m)
				}
			}
			if Sext(w, n) != Sext(w, n) || Shift(w, w, n) != Shift(w, w, n) {
				t.Errorf("Sext(%#x, %d), Shift of it", w, n)
			}
		}
	}
}

func TestP102Sext(t *testing.T) {
	for _, c := range []struct {
		v    uint32
		n    int
		want uint32
	}{
		{0x800, 12, 0xfffff800}, {0x7ff, 12, 0x7ff}, {0xfff, 12, 0xffffffff}, {0x1800, 12, 0xfffff800}, {0x1234f, 4, 0xffffffff},
		{1, 1, 0xffffffff}, {2, 1, 0}, {top - 1, 31, 0xffffffff}, {top, 31, 0}, {top, 32, top}, {0x12345678, 32, 0x12345678},
		{5, 0, 0}, {5, -1, 0}, {5, 33, 0}, {1<<32 - 1, 64, 0}, {1<<32 - 1, math.MaxInt, 0}, {1<<32 - 1, math.MinInt, 0},
	} {
		if got := Sext(c.v, c.n); got != c.want {
			t.Errorf("Sext(%#x, %d) = %#x, want %#x", c.v, c.n, got, c.want)
		}
	}
	for _, v := range words() {
		for n := 1; n <= 32; n++ {
			want := int64(v) % (1 << n)
			if want >= 1<<(n-1) {
				want -= 1 << n
			}
			if got := Sext(v, n); got != uint32(want) {
				t.Errorf("Sext(%#x, %d) = %#x, want %#x", v, n, got, uint32(want))
			}
		}
	}
}

func TestP102Field(t *testing.T) {
	for _, c := range []struct {
		v       uint32
		from, n int
		want    uint32
	}{
		{0xabcd1234, 8, 8, 0x12}, {0xabcd1234, 0, 32, 0xabcd1234}, {0xabcd1234, 28, 4, 0xa}, {top, 31, 1, 1}, {1, 0, 1, 1}, {2, 0, 1, 0},
		{1, 32, 1, 0}, {1<<32 - 1, 31, 2, 0}, {1<<32 - 1, 1, 32, 0}, {1<<32 - 1, 0, 33, 0}, {1<<32 - 1, 0, 0, 0}, {1<<32 - 1, 3, -1, 0},
		{1<<32 - 1, -1, 1, 0}, {1<<32 - 1, -1, 33, 0}, {1<<32 - 1, math.MinInt, 1, 0}, {1<<32 - 1, 0, math.MinInt, 0},
		{1<<32 - 1, math.MaxInt, 1, 0}, {1<<32 - 1, 1, math.MaxInt, 0}, {1<<32 - 1, math.MaxInt, math.MaxInt, 0},
	} {
		if got := Field(c.v, c.from, c.n); got != c.want {
			t.Errorf("Field(%#x, %d, %d) = %#x, want %#x", c.v, c.from, c.n, got, c.want)
		}
	}
	for _, v := range words() {
		for from := range 32 {
			for n := 1; from+n <= 32; n++ {
				want := uint64(v) >> from & (1<<n - 1)
				if got := Field(v, from, n); uint64(got) != want {
					t.Errorf("Field(%#x, %d, %d) = %#x, want %#x", v, from, n, got, want)
				}
			}
		}
	}
}

func TestP102Less(t *testing.T) {
	for _, c := range []struct {
		a, b uint32
		want bool
	}{
		{1, 2, true}, {2, 1, false}, {1, 1, false}, {1<<32 - 1, 0, true}, {0, 1<<32 - 1, false}, {top, top - 1, true}, {top - 1, top, false},
		{top, 1<<32 - 1, true}, {top, top, false},
	} {
		if got := Less(c.a, c.b); got != c.want {
			t.Errorf("Less(%#x, %#x) = %t", c.a, c.b, got)
		}
	}
	pairs(t, func(a, b uint32) {
		if got, want := Less(a, b), signedBig(a).Cmp(signedBig(b)) < 0; got != want {
			t.Errorf("Less(%#x, %#x) = %t", a, b, got)
		}
	})
}

func TestP102Shift(t *testing.T) {
	for _, c := range []struct {
		a, by uint32
		kind  int
		want  uint32
	}{
		{top, 33, Arith, 0xc0000000}, {top, 31, Arith, 1<<32 - 1}, {top, 31, Right, 1}, {1, 31, Left, top}, {top - 1, 30, Arith, 1}, {3, 31, Left, top},
		{5, 0, Left, 5}, {5, 32, Left, 5}, {5, 32, Right, 5}, {1<<32 - 5, 64, Arith, 1<<32 - 5}, {5, 33, Left, 10}, {4, 1<<32 - 31, Right, 2},
		{1, 1<<32 - 1, Left, top},
		{1, 1, 3, 0}, {1, 0, 3, 0}, {1, 1, -1, 0}, {1, 1, math.MaxInt, 0}, {1, 1, math.MinInt, 0},
	} {
		if got := Shift(c.a, c.by, c.kind); got != c.want {
			t.Errorf("Shift(%#x, %d, %d) = %#x, want %#x", c.a, c.by, c.kind, got, c.want)
		}
	}
	pairs(t, func(a, b uint32) {
		by := uint(b % 32)
		left := low(new(big.Int).Lsh(unsignedBig(uint64(a)), by))
		right := low(new(big.Int).Rsh(unsignedBig(uint64(a)), by))
		arith := low(new(big.Int).Rsh(signedBig(a), by))
		for kind, want := range []uint64{left, right, arith} {
			if got := Shift(a, b, kind); got != uint32(want) {
				t.Errorf("Shift(%#x, %d, %d) = %#x, want %#x", a, b, kind, got, uint32(want))
			}
		}
	})
}

func TestP103Mulh(t *testing.T) {
	minus := uint32(1<<32 - 1)
	for _, c := range []struct{ a, b, h, hsu, hu uint32 }{
		{top, top, 1 << 30, 0xc0000000, 1 << 30}, {minus, minus, 0, minus, minus - 1}, {minus, 1, minus, minus, 0}, {1, minus, minus, 0, 0},
		{0, minus, 0, 0, 0}, {1 << 16, 1 << 16, 1, 1, 1}, {top, minus, 0, top, top - 1}, {top - 1, top, 0xc0000000, 1<<30 - 1, 1<<30 - 1},
	} {
		if h, hsu, hu := Mulh(c.a, c.b), Mulhsu(c.a, c.b), Mulhu(c.a, c.b); h != c.h || hsu != c.hsu || hu != c.hu {
			t.Errorf("of %#x and %#x: Mulh %#x, Mulhsu %#x, Mulhu %#x", c.a, c.b, h, hsu, hu)
		}
	}
}

func TestP103Quotients(t *testing.T) {
	minus := uint32(1<<32 - 1)
	for _, c := range []struct{ a, b, q, r, uq, ur uint32 }{
		{7, 2, 3, 1, 3, 1}, {1<<32 - 7, 2, 1<<32 - 3, minus, 0x7ffffffc, 1}, {7, 1<<32 - 2, 1<<32 - 3, 1, 0, 7},
		{1<<32 - 7, 1<<32 - 2, 3, minus, 0, 1<<32 - 7}, {7, 0, minus, 7, minus, 7}, {0, 0, minus, 0, minus, 0}, {1<<32 - 7, 0, minus, 1<<32 - 7, minus, 1<<32 - 7},
		{top, minus, top, 0, 0, top}, {top, 1, top, 0, top, 0}, {top, 0, minus, top, minus, top}, {top + 1, minus, top - 1, 0, 0, top + 1},
		{minus, minus, 1, 0, 1, 0}, {minus, 10, 0, minus, 429496729, 5},
	} {
		if q, r := Div(c.a, c.b), Rem(c.a, c.b); q != c.q || r != c.r {
			t.Errorf("of %#x and %#x: Div %#x, Rem %#x, want %#x, %#x", c.a, c.b, q, r, c.q, c.r)
		}
		if q, r := Divu(c.a, c.b), Remu(c.a, c.b); q != c.uq || r != c.ur {
			t.Errorf("of %#x and %#x: Divu %#x, Remu %#x, want %#x, %#x", c.a, c.b, q, r, c.uq, c.ur)
		}
	}
	pairs(t, func(a, b uint32) {
		if b == 0 {
			return
		}
		q, r := new(big.Int).QuoRem(signedBig(a), signedBig(b), new(big.Int))
		if Div(a, b) != uint32(low(q)) || Rem(a, b) != uint32(low(r)) {
			t.Errorf("of %#x and %#x: Div %#x, Rem %#x", a, b, Div(a, b), Rem(a, b))
		}
		q, r = new(big.Int).QuoRem(unsignedBig(uint64(a)), unsignedBig(uint64(b)), new(big.Int))
		if Divu(a, b) != uint32(low(q)) || Remu(a, b) != uint32(low(r)) {
			t.Errorf("of %#x and %#x: Divu %#x, Remu %#x", a, b, Divu(a, b), Remu(a, b))
		}
	})
}

func TestP103Double(t *testing.T) {
	if got := Double(0x89abcdef, 0x81234567); got != 0x8123456789abcdef {
		t.Errorf("Double: %#x", got)
	}
	pairs(t, func(a, b uint32) {
		if got := Double(a, b); uint32(got) != a || uint32(got>>32) != b {
			t.Errorf("Double(%#x, %#x) = %#x", a, b, got)
		}
	})
}

type division struct {
	v    uint64
	d    uint32
	q, r uint32
	ok   bool
}

func checkDivisions(t *testing.T, name string, f func(uint64, uint32) (uint32, uint32, bool), l []division) {
	t.Helper()
	for _, c := range l {
		if q, r, ok := f(c.v, c.d); q != c.q || r != c.r || ok != c.ok {
			t.Errorf("%s(%#x, %#x) = %#x, %#x, %t, want %#x, %#x, %t", name, c.v, c.d, q, r, ok, c.q, c.r, c.ok)
		}
	}
}

func TestP104UmMod(t *testing.T) {
	minus := uint32(1<<32 - 1)
	checkDivisions(t, "UmMod", UmMod, []division{
		{7, 2, 3, 1, true}, {0, 5, 0, 0, true}, {1<<32 - 1, 1, minus, 0, true}, {1 << 32, 1, 0, 0, false}, {1 << 32, 2, top, 0, true},
		{2<<32 - 1, 2, minus, 1, true}, {2 << 32, 2, 0, 0, false}, {Double(minus, minus-1), minus, minus, minus - 1, true},
		{Double(0, minus), minus, 0, 0, false}, {math.MaxUint64, minus, 0, 0, false}, {7, 0, 0, 0, false}, {0, 0, 0, 0, false}, {math.MaxUint64, 0, 0, 0, false},
		{7, minus, 0, 7, true},
	})
}

func TestP104SmRem(t *testing.T) {
	minus, two := uint32(1<<32-1), uint32(1<<32-2)
	checkDivisions(t, "SmRem", SmRem, []division{
		{7, 2, 3, 1, true}, {1<<64 - 7, 2, 1<<32 - 3, minus, true}, {7, two, 1<<32 - 3, 1, true}, {1<<64 - 7, two, 3, minus, true}, {0, 5, 0, 0, true},
		{1<<31 - 1, 1, top - 1, 0, true}, {1 << 31, 1, 0, 0, false}, {1<<64 - 1<<31, 1, top, 0, true}, {1<<64 - 1<<31 - 1, 1, 0, 0, false},
		{1 << 31, minus, top, 0, true}, {1<<31 + 1, minus, 0, 0, false}, {1<<64 - 1<<31, minus, 0, 0, false}, {1<<64 - 1<<31 + 1, minus, top - 1, 0, true},
		{1<<32 - 1, 2, top - 1, 1, true}, {1 << 32, 2, 0, 0, false}, {1<<64 - 1<<32 - 1, 2, top, minus, true}, {1<<64 - 1<<32 - 2, 2, 0, 0, false},
		{1<<32 + 1, two, top, 1, true}, {1<<32 + 2, two, 0, 0, false},
		{1 << 63, minus, 0, 0, false}, {1 << 63, 1, 0, 0, false}, {1 << 62, top, top, 0, true}, {1 << 63, top, 0, 0, false}, {1 << 63, 0, 0, 0, false},
		{7, 0, 0, 0, false}, {0, 0, 0, 0, false},
	})
}

func TestP104FmMod(t *testing.T) {
	minus, two := uint32(1<<32-1), uint32(1<<32-2)
	checkDivisions(t, "FmMod", FmMod, []division{
		{7, 2, 3, 1, true}, {1<<64 - 7, 2, 1<<32 - 4, 1, true}, {7, two, 1<<32 - 4, minus, true}, {1<<64 - 7, two, 3, minus, true}, {0, two, 0, 0, true},
		{8, two, 1<<32 - 4, 0, true}, {1<<64 - 8, 2, 1<<32 - 4, 0, true}, {1, minus - 9, minus, minus - 8, true},
		{1<<31 - 1, 1, top - 1, 0, true}, {1 << 31, 1, 0, 0, false}, {1<<64 - 1<<31, 1, top, 0, true}, {1<<64 - 1<<31 - 1, 1, 0, 0, false},
		{1 << 31, minus, top, 0, true}, {1<<31 + 1, minus, 0, 0, false}, {1<<64 - 1<<31, minus, 0, 0, false}, {1<<64 - 1<<31 + 1, minus, top - 1, 0, true},
		{1<<32 - 1, 2, top - 1, 1, true}, {1 << 32, 2, 0, 0, false}, {1<<64 - 1<<32, 2, top, 0, true}, {1<<64 - 1<<32 - 1, 2, 0, 0, false},
		{1 << 32, two, top, 0, true}, {1<<32 + 1, two, 0, 0, false},
		{1 << 63, minus, 0, 0, false}, {1 << 63, 1, 0, 0, false}, {1 << 62, top, top, 0, true}, {1 << 63, top, 0, 0, false}, {1 << 63, 0, 0, 0, false},
		{7, 0, 0, 0, false}, {0, 0, 0, 0, false},
	})
}

// TestP104Big holds all three divisions against those of package big.
func TestP104Big(t *testing.T) {
	least, most := big.NewInt(math.MinInt32), big.NewInt(math.MaxInt32)
	for _, v := range doubles() {
		for _, d := range words() {
			if d == 0 {
				continue
			}
			n, m := big.NewInt(int64(v)), signedBig(d)
			q, r := new(big.Int).QuoRem(n, m, new(big.Int))
			checkBig(t, "SmRem", SmRem, v, d, q, r, least, most)
			if r.Sign() != 0 && r.Sign() != m.Sign() {
				q.Sub(q, big.NewInt(1))
				r.Add(r, m)
			}
			checkBig(t, "FmMod", FmMod, v, d, q, r, least, most)
			q, r = new(big.Int).QuoRem(unsignedBig(v), unsignedBig(uint64(d)), new(big.Int))
			checkBig(t, "UmMod", UmMod, v, d, q, r, new(big.Int), big.NewInt(math.MaxUint32))
		}
	}
}

func checkBig(t *testing.T, name string, f func(uint64, uint32) (uint32, uint32, bool), v uint64, d uint32, q, r, least, most *big.Int) {
	t.Helper()
	want := division{v: v, d: d}
	if q.Cmp(least) >= 0 && q.Cmp(most) <= 0 {
		want.q, want.r, want.ok = uint32(low(q)), uint32(low(r)), true
	}
	checkDivisions(t, name, f, []division{want})
}

func TestP105Inverse(t *testing.T) {
	held := 0
	for _, v := range doubles() {
		for _, d := range words() {
			if q, r, ok := UmMod(v, d); ok {
				held++
				if uint64(q)*uint64(d)+uint64(r) != v || r >= d {
					t.Errorf("UmMod(%#x, %#x) = %#x, %#x", v, d, q, r)
				}
			}
			for name, f := range map[string]func(uint64, uint32) (uint32, uint32, bool){"SmRem": SmRem, "FmMod": FmMod} {
				qw, rw, ok := f(v, d)
				if !ok {
					continue
				}
				held++
				q, r, by := int64(int32(qw)), int64(int32(rw)), int64(int32(d))
				sign := by
				if name == "SmRem" {
					sign = int64(v)
				}
				if uint64(q*by+r) != v || max(r, -r) >= max(by, -by) || r != 0 && (r < 0) != (sign < 0) {
					t.Errorf("%s(%#x, %#x) = %d, %d", name, v, d, q, r)
				}
			}
		}
	}
	if held == 0 {
		t.Error("no division had a quotient")
	}
}

// TestP105Words: the words' quotients and remainders are inverse too, modulo 2^32, for a divisor 0 as well.
func TestP105Words(t *testing.T) {
	pairs(t, func(a, b uint32) {
		if Div(a, b)*b+Rem(a, b) != a || Divu(a, b)*b+Remu(a, b) != a {
			t.Errorf("of %#x and %#x: %#x, %#x, %#x, %#x", a, b, Div(a, b), Rem(a, b), Divu(a, b), Remu(a, b))
		}
	})
}

func TestP106Halves(t *testing.T) {
	pairs(t, func(a, b uint32) {
		ua, ub := unsignedBig(uint64(a)), unsignedBig(uint64(b))
		for _, c := range []struct {
			name  string
			upper uint32
			x, y  *big.Int
		}{
			{"Mulh", Mulh(a, b), signedBig(a), signedBig(b)},
			{"Mulhsu", Mulhsu(a, b), signedBig(a), ub},
			{"Mulhu", Mulhu(a, b), ua, ub},
		} {
			if want := low(new(big.Int).Mul(c.x, c.y)); Double(a*b, c.upper) != want {
				t.Errorf("%s(%#x, %#x) = %#x, want the upper half of %#x", c.name, a, b, c.upper, want)
			}
		}
	})
}
