package image

import (
	"slices"
	"strings"
	"testing"
	"unsafe"

	"swage/api"
	"swage/asm"
)

const everything = "a: b: nop;c: def DUP 2;lw t0 0 s0;d: list 1;e: part X;if t0 eq t1;ret;else;def Y 1;then;f: heads;g: text \"a b\"" + ";def long-name 15;list 0;begin;def DIP 0;again;h: heads"

// overlaps reports whether two texts share bytes.
func overlaps(a, b string) bool {
	from, other := uintptr(unsafe.Pointer(unsafe.StringData(a))), uintptr(unsafe.Pointer(unsafe.StringData(b)))
	return a != "" && b != "" && from < other+uintptr(len(b)) && other < from+uintptr(len(a))
}

// namesOf returns the texts of an image's symbols.
func namesOf(x Image) (all []string) {
	for _, s := range x.Symbols {
		all = append(all, s.Name)
	}
	return all
}

func TestP1001ResultsShareNoTexts(t *testing.T) {
	s := source(everything)
	a, _ := Build(s, 64)
	b, _ := Build(s, 64)
	mine := namesOf(a)
	if len(mine) < 20 {
		t.Fatalf("the symbols are %q", mine)
	}
	for k, name := range mine {
		for _, other := range slices.Concat([]string{s}, namesOf(b), mine[:k]) {
			if overlaps(name, other) {
				t.Errorf("%q shares memory with %q", name, short(other))
			}
		}
	}
}

// What is written to a result, its unused capacity too, is seen nowhere else.
func TestP1001ResultsShareNoLists(t *testing.T) {
	s := source(everything)
	want, _ := modelBuild(s, 64)
	before, _ := Build(s, 64)
	x, _ := Build(s, 64)
	for k := range x.Bytes[:cap(x.Bytes)] {
		x.Bytes[:cap(x.Bytes)][k] = 0xee
	}
	if !slices.Equal(x.Symbols, want.Symbols) {
		t.Error("the bytes share memory with the symbols")
	}
	for k := range x.Symbols[:cap(x.Symbols)] {
		x.Symbols[:cap(x.Symbols)][k] = asm.Symbol{Name: "spoilt", At: 1}
	}
	after, _ := Build(s, 64)
	if !same(before, want) || !same(after, want) || s != source(everything) {
		t.Error("what is written to a result is seen elsewhere")
	}
}

func TestP1001LabelsShareNoTexts(t *testing.T) {
	for _, name := range []string{"", "A", "DUP", "=0", strings.Repeat("n", 100)} {
		for _, list := range []int{-1, 0, 1, 10} {
			a, b := Label(list, name), Label(list, name)
			if overlaps(a, name) || overlaps(a, b) {
				t.Errorf("Label(%d, %q) shares memory", list, name)
			}
		}
	}
}

// Neither an image nor what stands behind its lists is changed by At.
func TestP1001ArgumentsAreUnchanged(t *testing.T) {
	symbols := []asm.Symbol{{Name: "a", At: 1}, {Name: "b", At: 2}, {Name: "a", At: 3}, {Name: "behind", At: 4}}
	b := []byte("bytes")
	x := Image{Bytes: b[:3], Symbols: symbols[:3]}
	for _, name := range []string{"a", "b", "behind", "", "c"} {
		x.At(name)
	}
	if string(b) != "bytes" || !slices.Equal(symbols, []asm.Symbol{{Name: "a", At: 1}, {Name: "b", At: 2}, {Name: "a", At: 3}, {Name: "behind", At: 4}}) {
		t.Errorf("At has changed %q and %v", b, symbols)
	}
	if at, ok := x.At("behind"); at != 0 || ok {
		t.Errorf("a symbol behind the list's end is found at %d", at)
	}
}

func TestP1001Pure(t *testing.T) {
	sources := []string{everything, "", "def A 0", "def A 0;ret", "list 1", "def A 0", "heads", "def A", "def A 0;def A 0", "part A;then", everything, "part \x7f", "nope", everything + ";def DUP 0"}
	for range 3 {
		for _, s := range sources {
			for _, at := range []uint32{64, 0, 1} {
				check(t, source(s), at)
			}
		}
	}
}

func TestP1001ZeroBesideErrors(t *testing.T) {
	for s, want := range map[string]api.Errno{
		"\"": api.ErrLine, "head": api.ErrLine, "part \x7f": api.ErrName, "@a:": api.ErrName, "then": api.ErrPair, "begin": api.ErrPair, "if": api.ErrLine, "a:": api.ErrTwice,
		"nope": api.ErrLine, "j nowhere": api.ErrName, "align;addi t0 t0 2048": api.ErrInst, "byte 1;align;byte 1;nop": api.ErrFault, "space 131072": api.ErrSize,
		"align;j far;space 100000;far:;space 20000;align;beqz t0 far": api.ErrFar, strings.Repeat("x", 257): api.ErrSize,
	} {
		if x, err := Build(source(everything+";"+s), 64); len(x.Bytes) != 0 || len(x.Symbols) != 0 || err != want {
			t.Errorf("Build(..%s) = %.300v, %d; not %d", short(s), x, err, want)
		}
	}
	if x, err := Build("def A 0\nret", 2); len(x.Bytes) != 0 || len(x.Symbols) != 0 || err != api.ErrSize {
		t.Errorf("Build at 2 = %v, %d", x, err)
	}
}

// Huge texts, and texts of any bytes, are answered too.
func TestP1001Ends(t *testing.T) {
	long := strings.Repeat("a", 1<<22)
	for _, s := range []string{long, long + ":", "def " + long + " 0", "def A " + long, "part " + long, "list " + long, "\"" + long, strings.Repeat("def A 0\n", 1<<20), strings.Repeat("\n", 1<<22),
		strings.Repeat("heads\n", 1<<15), strings.Repeat("def A 0\n", 1<<15), strings.Repeat("part A\n", 1<<15)} {
		if _, err := Build(s, 0); err != api.ErrSize {
			t.Errorf("Build(%q): %d", short(s), err)
		}
	}
	fails(t, "def A "+strings.Repeat("9", 240), api.ErrLine)
	fails(t, "list "+strings.Repeat("0", 240), api.ErrLine)
	fits(t, "def A "+strings.Repeat("0", 240))
	draw := random(1001)
	for range 3000 {
		b := make([]byte, draw(60))
		for k := range b {
			b[k] = "def part list heads head \n\n \t\"::01A\x00\xff/@="[draw(40)]
		}
		check(t, string(b), uint32(4*draw(3)))
	}
}
