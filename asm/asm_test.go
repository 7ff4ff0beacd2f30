package asm

import (
	"bytes"
	"maps"
	"reflect"
	"slices"
	"strconv"
	"strings"
	"testing"
	"unsafe"

	"swage/api"
	"swage/isa"
	"swage/lines"
)

// line returns a line without labels.
func line(word string, args ...string) lines.Line {
	return lines.Line{Word: word, Args: args}
}

// parse returns the lines of a source of which ; ends a line, as a line feed does.
func parse(s string) []lines.Line {
	l, at, err := lines.Parse(strings.ReplaceAll(s, ";", "\n"))
	if err != api.OK {
		panic("line " + strconv.Itoa(at) + " of the test: " + s)
	}
	return l
}

func sameOut(a, b Out) bool {
	return bytes.Equal(a.Bytes, b.Bytes) && slices.Equal(a.Symbols, b.Symbols)
}

func short(l []lines.Line) string {
	s := strconv.Itoa(len(l)) + " lines:"
	for _, x := range l[:min(len(l), 20)] {
		s += " " + strings.Join(x.Labels, ":") + "|" + x.Word + "|" + strings.Join(x.Args, ",") + ";"
	}
	return s[:min(len(s), 500)]
}

// check holds Assemble against the model, and returns what it answered.
func check(t *testing.T, l []lines.Line, at uint32) (Out, int, api.Errno) {
	t.Helper()
	want, line, err := modelAssemble(l, at)
	got, n, e := Assemble(l, at)
	if n != line || e != err || !sameOut(got, want) {
		t.Fatalf("Assemble(%s, %#x) = %.200v, %d, %d; not %.200v, %d, %d", short(l), at, got, n, e, want, line, err)
	}
	return got, n, e
}

// words returns all words of the chapter, and some that are none.
func words() []string {
	w := slices.Sorted(maps.Keys(forms))
	w = append(w, "word", "byte", "text")
	return append(w, "LI", "Word", "add ", " add", "ad", "addd", "x", ":", "a:", "\"\"", "//", ".word", "subi", "5", "t0", "if", "def")
}

// samples returns Args of all kinds.
func samples() []string {
	return []string{
		"t0", "x31", "zero", "0", "-1", "2048", "131072", "131073", "0xffffffff", "'a'", "'\"'",
		"a", "b", "x32", "x01", "X1", "T0", "0xFF", "--1", "4294967296", "-2147483649", "''", "-", "//", ":", "a b", " ",
		"", "\"", "\"\"", "\"a\"", "\"5\"", "\"t0", "\"a\"b", "a\"",
	}
}

func TestP702SizeOfEachWordWithAllArgs(t *testing.T) {
	all := samples()
	few := []string{"t0", "7", "300", "a", "", "\"a\""}
	try := func(w string, args ...string) {
		size, err := Size(line(w, args...))
		want, _, e := modelSize(w, args, 0)
		if size != want || err != e {
			t.Fatalf("Size(%q %q) = %d, %d; not %d, %d", w, args, size, err, want, e)
		}
	}
	for _, w := range words() {
		try(w)
		for _, a := range all {
			try(w, a)
			for _, b := range all {
				try(w, a, b)
				for k := 0; k < len(all); k += 2 {
					try(w, a, b, all[k])
				}
			}
		}
		for k := range 6 * 6 * 6 * 6 * 6 {
			args := []string{few[k%6], few[k/6%6], few[k/36%6], few[k/216%6], few[k/1296%6]}
			try(w, args[:4]...)
			try(w, args...)
		}
	}
}

func TestP702SizeByHand(t *testing.T) {
	for s, want := range map[string]int{
		"": 0, "a:": 0, "a: b: nop": 4, "lui t0 5": 4, "lui t0 -1": 4, "addi t0 t0 2048": 4, "jal ra x": 4, "jal ra 3": 4,
		"sw t0 -1 s0": 4, "lw t0 0 s0": 4, "jalr zero 0 ra": 4, "ecall": 4, "ebreak": 4, "fence 0": 4, "slli t0 t0 99": 4,
		"li t0 -2049": 8, "li t0 -2048": 4, "li t0 2047": 4, "li t0 2048": 8, "li t0 4294967295": 8, "li t0 0xfffff800": 8,
		"la t0 nowhere": 8, "call f": 4, "j 4": 4, "ret": 4, "beqz t0 @7": 4, "not t0 t1": 4, "neg t0 t1": 4, "mv t0 t1": 4,
		"word 1": 4, "word a b 3 4 5": 20, "byte 1": 1, "byte -128 255 'a'": 3, "text \"\"": 0, "text \"a b\"": 3,
		"space 0": 0, "space 131072": 131072, "align": 0, "span a b": 4, "span a a": 4,
	} {
		if got, err := Size(parse(s + ";")[0]); got != want || err != api.OK {
			t.Errorf("Size(%s) = %d, %d; not %d", s, got, err, want)
		}
	}
	for _, s := range []string{
		"lui t0", "lui t0 a", "lui 5 t0", "lui t0 5 5", "addi t0 t0 x", "addi t0 5 t0", "addi t0 t0", "lw t0 s0 0", "sw t0 0", "jal ra t0",
		"jal x", "add t0 t1", "add t0 t1 5", "add t0 t1 x", "ecall 0", "fence", "fence a", "fence t0", "slli t0 t0 t0",
		"li t0 a", "li 5 5", "li t0", "li t0 4294967296", "li t0 -2147483649", "la t0 5", "la t0 t1", "la t0", "la x y", "call", "call ra", "call f g",
		"j", "ret 0", "nop 0", "beqz t0", "beqz x t0", "not t0", "not t0 5", "neg t0 t1 t2", "mv t0", "mv t0 0",
		"word", "word t0", "word 5 \"a\"", "byte", "byte a", "byte 256", "byte -129", "byte 1 256", "byte t0", "text", "text a", "text \"a\" \"b\"",
		"text 'a'", "space", "space -1", "space 131073", "space 1 2", "space a", "align 4", "span a", "span a 5", "span t0 a", "span a b c",
		"NOP", "nope", "def a 0", "head", "if t0 eq t1",
	} {
		if got, err := Size(parse(s + ";")[0]); got != 0 || err != api.ErrLine {
			t.Errorf("Size(%s) = %d, %d; not ErrLine", s, got, err)
		}
	}
}

// The labels of a line, right ones or not, have no part in its size.
func TestP702SizeWhateverTheLabels(t *testing.T) {
	for _, labels := range [][]string{nil, {"a"}, {"a", "a"}, {""}, {"\"", "5", "t0", "add"}} {
		if n, err := Size(lines.Line{Labels: labels, Word: "la", Args: []string{"t0", "x"}}); n != 8 || err != api.OK {
			t.Errorf("with labels %q: %d, %d", labels, n, err)
		}
		if n, err := Size(lines.Line{Labels: labels, Args: []string{"t0", "", "\""}}); n != 0 || err != api.OK {
			t.Errorf("with labels %q alone: %d, %d", labels, n, err)
		}
	}
}

// Each line by itself, and between two labels.
func TestP703EachWordWithAllArgs(t *testing.T) {
	all := samples()
	try := func(w string, args ...string) {
		check(t, []lines.Line{line(w, args...)}, 0x1000)
		check(t, []lines.Line{{Labels: []string{"a"}}, {Labels: []string{"x32", "0xFF"}, Word: w, Args: args}, {Labels: []string{"b"}}}, 8)
	}
	for _, w := range words() {
		try(w)
		form, ok := forms[w]
		for _, a := range all {
			try(w, a)
			if ok && len(form) < 2 {
				continue
			}
			for _, b := range all {
				try(w, a, b)
				if len(form) == 3 && (modelKind(a) == 'r') {
					for _, c := range all {
						try(w, a, b, c)
					}
				}
			}
		}
	}
}

func TestP703BytesByHand(t *testing.T) {
	for s, want := range map[string]string{
		"a: j a": "6f000000", "j 0": "6f000000", "addi x1 x2 -1": "9300f1ff", "ret": "67800000", "nop": "13000000",
		"bnez t0 -4": "e39e02fe", "jalr zero 0 ra": "67800000", "mv x1 x2": "93000100", "not x1 x2": "9340f1ff", "neg x1 x2": "b3002040",
		"li x1 2047": "9300f07f", "li x1 -2048": "93000080", "li x1 2048": "b710000093800080", "li x1 -2049": "b7f0ffff9380f07f",
		"li x1 0x12345678": "b750341293808067", "li x1 0xffffffff": "b70000009380f0ff", "li x1 4294967295": "b70000009380f0ff",
		"li x1 -2147483648": "b700008093800000", "li x1 0xfffff800": "b700000093800080", "li x1 0x7fffffff": "b70000809380f0ff",
		"nop;a: la x1 a": "13000000b700000093804000", "call a;a:": "ef004000", "sw t0 4 s0": "23225400", "lw t0 4 s0": "83224400",
		"word 1 -1 0xffffffff a;a:": "01000000ffffffffffffffff10000000", "byte 1 -1 255 -128 'a'": "01ffff8061", "text \"a b\"": "612062",
		"space 3": "000000", "byte 1;align;byte 2": "0100000002", "byte 1;align;align;b:": "01000000",
		"a: byte 1 2;b: span a b": "010202000000", "a: byte 1 2;b: span b a": "0102feffffff", "span a a;a:": "00000000",
		"ecall": "73000000", "ebreak": "73001000", "fence 255": "0f00f00f", "lui x1 0xfffff": "b7f0ffff", "auipc x1 1": "97100000",
		"beqz t0 a;nop;a:": "6384020013000000", "mul x1 x2 x3": "b3003102", "srai x1 x2 31": "9350f141", "": "",
	} {
		got, n, err := check(t, parse(s), 0)
		hex := ""
		for _, b := range got.Bytes {
			hex += string("0123456789abcdef"[b>>4]) + string("0123456789abcdef"[b&15])
		}
		if hex != want || n != 0 || err != api.OK {
			t.Errorf("Assemble(%s) = %s, %d, %d; not %s", s, hex, n, err, want)
		}
	}
}

// Each error by hand, with its line, and the one that comes first where there are two.
func TestP703ErrorsByHand(t *testing.T) {
	for _, x := range []struct {
		source string
		at     uint32
		line   int
		err    api.Errno
	}{
		{"j x", 0, 1, api.ErrName}, {"addi t0 t0 2048", 0, 1, api.ErrInst}, {"byte 1;nop", 0, 2, api.ErrFault}, {"byte 256", 0, 1, api.ErrLine},
		{"a: nop;a: nop", 0, 2, api.ErrTwice}, {"nop;a: a: nop", 0, 2, api.ErrTwice}, {"a: nop;space 131072", 0, 2, api.ErrSize},
		{"nop", 2, 0, api.ErrSize}, {"", 1, 0, api.ErrSize}, {"a: a: x", 3, 0, api.ErrSize}, {"", 0, 0, api.OK}, {"", 4, 0, api.OK},
		{"space 131072", 0, 0, api.OK}, {"space 131072;a:", 8, 0, api.OK}, {"space 131072;align", 8, 0, api.OK}, {"space 131072;byte 1", 8, 2, api.ErrSize},
		{"space 131069;align", 0, 0, api.OK}, {"space 131069;la t0 a;a:", 0, 2, api.ErrFault}, {"space 131068;la t0 a;a:", 0, 2, api.ErrSize},
		{"space 131069;word 1", 0, 2, api.ErrSize}, {"space 131069;word", 0, 2, api.ErrLine}, {"a: space 131069;a: nop x", 0, 2, api.ErrTwice},
		// The first pass comes first, wherever its error is.
		{"j x;nop;nop y", 0, 3, api.ErrLine}, {"addi t0 t0 2048;byte 1;nop", 0, 3, api.ErrFault}, {"a: j x;a:", 0, 2, api.ErrTwice},
		{"j x;space 131072", 0, 2, api.ErrSize}, {"word x;j 1", 0, 1, api.ErrName}, {"j 1;word x", 0, 1, api.ErrInst},
		{"a: space 4098;b: align;j b;beqz t0 a;j x", 0, 4, api.ErrFar}, {"byte 1;a: byte 1 1 1;j a;j 1", 0, 3, api.ErrFar},
		{"nop;nop;span a x;a:", 0, 3, api.ErrName}, {"nop;nop;span x a;a:", 0, 3, api.ErrName}, {"la t0 x", 0, 1, api.ErrName}, {"word 1 2 x", 0, 1, api.ErrName},
		{"byte 1;byte 256", 0, 2, api.ErrLine}, {"byte 1;nop 1", 0, 2, api.ErrLine}, {"byte 1;li t0 5", 0, 2, api.ErrFault}, {"byte 1;la t0 x", 0, 2, api.ErrFault},
		{"byte 1;li t0 5000", 0, 2, api.ErrFault}, {"byte 1;word x", 0, 2, api.ErrName}, {"byte 1;word 1;span a a;a: text \"\"", 0, 0, api.OK},
		{"fence 2048", 0, 1, api.ErrInst}, {"lui t0 -1", 0, 1, api.ErrInst}, {"lui t0 0x100000", 0, 1, api.ErrInst}, {"slli t0 t0 32", 0, 1, api.ErrInst},
		{"slli t0 t0 -1", 0, 1, api.ErrInst}, {"jal ra 3", 0, 1, api.ErrInst}, {"call 0x100000", 0, 1, api.ErrInst}, {"call 0xffffe", 0, 0, api.OK},
		{"j 0xfffffffe", 0, 1, api.ErrInst}, {"addi t0 t0 0xffffffff", 0, 1, api.ErrInst}, {"beqz t0 4096", 0, 1, api.ErrInst}, {"sw t0 -2049 s0", 0, 1, api.ErrInst},
		{"5: t0: add: nop", 0, 0, api.OK}, {"5: nop;j 5", 0, 2, api.ErrInst}, {"t0: nop;j t0", 0, 2, api.ErrLine}, {"add: j add", 0, 0, api.OK},
		{"nop;nop;byte", 0, 3, api.ErrLine}, {"if: else", 0, 1, api.ErrLine},
	} {
		l := parse(x.source)
		got, n, err := check(t, l, x.at)
		if n != x.line || err != x.err {
			t.Errorf("Assemble(%s, %d) = %d, %d; not %d, %d", x.source, x.at, n, err, x.line, x.err)
		}
		if err != api.OK && (len(got.Bytes) != 0 || len(got.Symbols) != 0) {
			t.Errorf("Assemble(%s, %d): beside the error %d there is %v", x.source, x.at, err, got)
		}
	}
}

// One wrong line at each place of a program, alone and with a later one of each kind.
func TestP703ErrorsAtEachPlace(t *testing.T) {
	wrong := []lines.Line{
		{Labels: []string{"a"}}, line("nop", "a"), line("byte", "1", "2", "3"), line("space", "131072"),
		line("j", "nowhere"), line("j", "7"), line("bnez", "t0", "far"),
	}
	for _, w := range wrong {
		for _, v := range append(wrong, line("")) {
			for from := 1; from < 6; from++ {
				for to := from + 1; to < 7; to++ {
					l := parse("a: nop;nop;nop;b: la t0 b;word b;nop;li t0 5;far: space 4098;align")
					l[from], l[to] = w, v
					check(t, l, 0x400)
				}
			}
		}
	}
}

// Numbers at the bounds of what each instruction can have.
func TestP703NumbersAtTheBounds(t *testing.T) {
	bounds := []int{0, 1, -1, 2, 31, 32, 2046, 2047, 2048, 4094, 4095, 4096, 1<<20 - 2, 1<<20 - 1, 1 << 20, 1<<21 - 2, 1 << 21, 1<<31 - 1, 1 << 31, 1<<32 - 4, 1<<32 - 1, 1 << 32,
		-2, -2046, -2047, -2048, -2049, -2050, -4094, -4095, -4096, -4097, -4098, -1<<20 + 2, -1 << 20, -1<<20 - 2, -1 << 31, -1<<31 - 1}
	for w, form := range forms {
		for _, n := range bounds {
			var args []string
			for _, kind := range form {
				switch kind {
				case 'r':
					args = append(args, "x"+strconv.Itoa(len(args)+7))
				case 's':
					args = append(args, "a")
				default:
					args = append(args, strconv.Itoa(n))
				}
			}
			check(t, []lines.Line{{Labels: []string{"a"}}, line(w, args...)}, 4)
		}
	}
}

func TestP703LiOfAllLowBits(t *testing.T) {
	upper := []uint32{0, 1, 0x7ff, 0x800, 0xfff, 0x7ffff, 0x80000, 0xffffe, 0xfffff}
	for _, u := range upper {
		for low := range uint32(0x1000) {
			v := u<<12 | low
			for _, n := range []int{int(v), int(int32(v))} {
				check(t, []lines.Line{line("li", "x9", strconv.Itoa(n))}, 0)
			}
			if got, want := run(t, "li", strconv.Itoa(int(v))), v; got != want {
				t.Fatalf("li %#x makes %#x", want, got)
			}
		}
	}
}

// run returns what a li or la, assembled at 0, leaves in its register.
func run(t *testing.T, word, arg string) uint32 {
	t.Helper()
	o, _, err := Assemble([]lines.Line{line(word, "t1", arg)}, 0)
	if err != api.OK {
		t.Fatal(word, arg, err)
	}
	return made(t, o.Bytes)
}

// made returns what luis and addis of t1 leave in it.
func made(t *testing.T, b []byte) (v uint32) {
	t.Helper()
	for _, i := range decoded(t, b) {
		switch i {
		case isa.Inst{Op: isa.LUI, Rd: 6, Imm: i.Imm}:
			v = uint32(i.Imm) << 12
		case isa.Inst{Op: isa.ADDI, Rd: 6, Imm: i.Imm}:
			v = uint32(i.Imm)
		case isa.Inst{Op: isa.ADDI, Rd: 6, Rs1: 6, Imm: i.Imm}:
			v += uint32(i.Imm)
		default:
			t.Fatal("not of lui and addi", i)
		}
	}
	return v
}

// decoded returns the records of words.
func decoded(t *testing.T, b []byte) (all []isa.Inst) {
	t.Helper()
	for ; len(b) >= 4; b = b[4:] {
		i, err := isa.Decode(uint32(b[0]) | uint32(b[1])<<8 | uint32(b[2])<<16 | uint32(b[3])<<24)
		if err != api.OK {
			t.Fatalf("no instruction: % x", b[:4])
		}
		all = append(all, i)
	}
	if len(b) != 0 {
		t.Fatalf("bytes are left: % x", b)
	}
	return all
}

// la of symbols at each place modulo 4, with low bits around the half and at all uppers' bounds.
func TestP703LaOfAllLowBits(t *testing.T) {
	for _, base := range []uint32{0, 0x1000, 0x7ffff000, 0x80000000, 0xffffe000, 0xfffff000} {
		for _, low := range []uint32{0, 1, 2, 3, 4, 0x7fe, 0x7ff, 0x800, 0x801, 0xffe, 0xfff, 0x1000} {
			for _, ahead := range []uint32{8, 0x1800, 0x10000} {
				at := base - ahead
				l := []lines.Line{line("la", "t1", "s"), line("space", strconv.Itoa(int(ahead+low-8))), {Labels: []string{"s"}}}
				o, _, _ := check(t, l, at)
				if want := base + low; made(t, o.Bytes[:8]) != want || o.Symbols[0] != (Symbol{"s", want}) {
					t.Errorf("la of %#x, at %#x: %#x; the symbol is %v", want, at, made(t, o.Bytes[:8]), o.Symbols)
				}
			}
		}
	}
}

// Targets ahead and behind, at the farthest and beyond, even and odd.
func TestP703Targets(t *testing.T) {
	for w, reach := range map[string]int{"j": 1 << 20, "call": 1 << 20, "jal ra": 1 << 20, "beqz t0": 4096, "bnez t0": 4096,
		"beq t0 t1": 4096, "bne t0 t1": 4096, "blt t0 t1": 4096, "bge t0 t1": 4096, "bltu t0 t1": 4096, "bgeu t0 t1": 4096} {
		// A jump reaches everything in an image.
		reach = min(reach, 131072-4)
		branch := line(strings.Fields(w)[0], append(strings.Fields(w)[1:], "s")...)
		for _, d := range []int{4, 5, 6, 7, 8, 10, 2046, 2048, 4090, 4092, 4093, 4094, 4095, 4096, 4097, 4098, 4100, reach - 2, reach} {
			for _, at := range []uint32{0, 0x10000, 0xfffffff0, 0xfffff000, 0x7ffffff8, -uint32(d) &^ 3} {
				ahead := []lines.Line{branch, line("space", strconv.Itoa(d-4)), {Labels: []string{"s"}}}
				behind := []lines.Line{{Labels: []string{"s"}}, line("space", strconv.Itoa(d)), branch}
				askew := []lines.Line{line("space", strconv.Itoa(-d&3)), {Labels: []string{"s"}}, line("space", strconv.Itoa(d)), branch}
				_, _, err := check(t, ahead, at)
				if far := d%2 != 0 || d > 4094 && reach == 4096; far != (err == api.ErrFar) {
					t.Errorf("%s %d bytes ahead: %d", w, d, err)
				}
				if d%4 == 0 {
					_, _, err = check(t, behind, at)
					if far := d > 4096 && reach == 4096; far != (err == api.ErrFar) {
						t.Errorf("%s %d bytes behind: %d", w, d, err)
					}
				}
				check(t, askew, at)
			}
		}
		o, _, err := check(t, []lines.Line{line("nop"), {Labels: []string{"s"}}, branch}, 0xfffffffc)
		if i := decoded(t, o.Bytes[4:]); err != api.OK || i[0].Imm != 0 {
			t.Errorf("%s of itself: %v, %d", w, i, err)
		}
	}
}

// Addresses go round at 2^32, and so do the ways between them.
func TestP703AddressesPassTheEnd(t *testing.T) {
	l := parse("a: call d;b: la t1 d;c: word a b c d;d: span a d;span d a;j a;beqz t0 c;e:")
	for at := uint32(0xffffffc0); at != 0x10; at += 4 {
		o, _, err := check(t, l, at)
		if err != api.OK {
			t.Fatal(at, err)
		}
		want := []Symbol{{"a", at}, {"b", at + 4}, {"c", at + 12}, {"d", at + 28}, {"e", at + 44}}
		if !slices.Equal(o.Symbols, want) {
			t.Errorf("at %#x: %v; not %v", at, o.Symbols, want)
		}
		if i := decoded(t, o.Bytes[:4])[0]; i.Imm != 28 || made(t, o.Bytes[4:12]) != at+28 {
			t.Errorf("at %#x: %v, %v", at, i, o)
		}
	}
}

func TestP703Align(t *testing.T) {
	for n := range 12 {
		for _, at := range []uint32{0, 4, 0xfffffffc, 0x7ffffffc} {
			o, _, err := check(t, []lines.Line{line("space", strconv.Itoa(n)), line("align"), {Labels: []string{"a"}}, line("align")}, at)
			want := (n + 3) / 4 * 4
			if err != api.OK || len(o.Bytes) != want || o.Symbols[0].At != at+uint32(want) {
				t.Errorf("%d bytes aligned at %#x: %v, %d", n, at, o, err)
			}
		}
	}
}

func TestP703TextOfAllBytes(t *testing.T) {
	all := make([]byte, 256)
	for k := range all {
		all[k] = byte(k)
	}
	for _, x := range []struct{ arg, want string }{
		{"\"\"", ""}, {"\"x", ""}, {"\"ab", "a"}, {"\"a\"", "a"}, {"\"\"\"", "\""}, {"\"" + string(all) + "\"", string(all)},
	} {
		o, _, err := check(t, []lines.Line{line("text", x.arg)}, 4)
		if string(o.Bytes) != x.want || err != api.OK {
			t.Errorf("text %q: %q, %d", x.arg, o.Bytes, err)
		}
	}
	for _, arg := range []string{"", "\"", "a", "'a'", " \"a\""} {
		if _, n, err := check(t, []lines.Line{line("text", arg)}, 4); n != 1 || err != api.ErrLine {
			t.Errorf("text %q: %d, %d", arg, n, err)
		}
	}
}

// Labels may be any texts, and stand in the order in which the lines have them.
func TestP703Labels(t *testing.T) {
	labels := []string{"z", "a", "", "5", "t0", "add", "\"", "//", "a b", "a:", "@0", "=0DUP$", "\n", "\xff"}
	var l []lines.Line
	var want []Symbol
	for k, name := range labels {
		l = append(l, lines.Line{Labels: []string{name, "2" + name}, Word: "byte", Args: []string{"1"}})
		want = append(want, Symbol{name, 64 + uint32(k)}, Symbol{"2" + name, 64 + uint32(k)})
	}
	o, _, err := check(t, l, 64)
	if !slices.Equal(o.Symbols, want) || err != api.OK {
		t.Errorf("%v, %d; not %v", o.Symbols, err, want)
	}
	for _, name := range labels {
		twice := append(slices.Clone(l), lines.Line{Labels: []string{"new", name}, Word: "none"})
		if _, n, err := check(t, twice, 64); n != len(twice) || err != api.ErrTwice {
			t.Errorf("%q once again: %d, %d", name, n, err)
		}
	}
}

func TestP703ManyLines(t *testing.T) {
	l := make([]lines.Line, api.MaxLines+1)
	for k := range l {
		l[k] = line("nop")
	}
	o, n, err := Assemble(l[:api.MaxLines], 0)
	if len(o.Bytes) != api.MaxImage || n != 0 || err != api.OK {
		t.Errorf("MaxLines of nop: %d bytes, %d, %d", len(o.Bytes), n, err)
	}
	if o, n, err = Assemble(l, 0); len(o.Bytes) != 0 || n != 0 || err != api.ErrSize {
		t.Errorf("MaxLines + 1 of nop: %d bytes, %d, %d", len(o.Bytes), n, err)
	}
	l[0] = line("none") // it is not looked at
	check(t, l, 0)
	check(t, l[:api.MaxLines], 0)
	clear(l)
	check(t, l, 0)
	check(t, l[:api.MaxLines], 4)
	l[0] = line("li", "t0", "-1")
	l[1] = line("space", "131064")
	check(t, l[:api.MaxLines], 4)
	l[1] = line("space", "131069")
	check(t, l[:api.MaxLines], 4)
}

// A line that is much too long is refused before it is written.
func TestP703HugeLines(t *testing.T) {
	args := make([]string, 1<<20)
	for k := range args {
		args[k] = "1"
	}
	for _, l := range [][]lines.Line{{line("word", args...)}, {line("nop"), line("byte", args...)}, {line("text", "\""+strings.Repeat("a", 1<<20))}} {
		if _, n, err := check(t, l, 0); n != len(l) || err != api.ErrSize {
			t.Errorf("%d, %d", n, err)
		}
	}
	if n, err := Size(line("word", args...)); n != 4<<20 || err != api.OK {
		t.Errorf("Size: %d, %d", n, err)
	}
}

// anyLine returns a line that is right most of the time; labels are from l0 on.
func anyLine(r func(int) int, label int) lines.Line {
	symbol := func() string { return "l" + strconv.Itoa(max(0, label+r(9)-4)) }
	number := func() string {
		return strconv.Itoa([]int{0, 4, -8, 2047, 2048, -2048, 12, 1, 30}[r(9-min(8, r(40)))] * (1 - 2*r(2)*r(2)*r(2)))
	}
	arg := func(kind rune) string {
		switch {
		case kind == 'r':
			return []string{"zero", "ra", "t0", "x31", "a7", "s0"}[r(6)]
		case kind == 'n' || kind == 't' && r(4) == 0:
			return number()
		}
		return symbol()
	}
	var l lines.Line
	if r(3) == 0 {
		l.Labels = []string{"l" + strconv.Itoa(label)}
	}
	all := words()[:len(forms)+3]
	l.Word = all[r(len(all))]
	form := forms[l.Word]
	switch l.Word {
	case "space":
		l.Args = []string{strconv.Itoa(4 * r(2000))}
		return l
	case "byte":
		form = "nnnn"
	case "word":
		form = "nssn"[:1+r(4)]
	case "text":
		l.Args = []string{"\"a bc\""}
	}
	for _, kind := range form {
		l.Args = append(l.Args, arg(kind))
	}
	if l.Word == "byte" {
		l.Args = []string{"1", "-1", "200", "'a'"}[:4-r(4)*r(2)*r(2)*r(2)]
	}
	return l
}

// anyProgram returns lines; those that no label is made for are taken as they come.
func anyProgram(r func(int) int, n int) []lines.Line {
	var l []lines.Line
	for k := range n {
		l = append(l, anyLine(r, k))
	}
	for k := range l { // most of the labels are there
		if len(l[k].Labels) == 0 && r(60) != 0 {
			l[k].Labels = []string{"l" + strconv.Itoa(k)}
		}
	}
	for k := range 4 {
		l = append(l, lines.Line{Labels: []string{"l" + strconv.Itoa(n+k)}})
	}
	return l
}

func TestP703AnyPrograms(t *testing.T) {
	r := random(703)
	ends := map[api.Errno]int{}
	for range 20000 {
		l := anyProgram(r, 1+r(9))
		if r(20) == 0 {
			l = append(l, l[r(len(l))])
		}
		_, _, err := check(t, l, uint32(4*r(1<<10))-2048)
		ends[err]++
	}
	for _, err := range []api.Errno{api.OK, api.ErrTwice, api.ErrFault, api.ErrName, api.ErrInst, api.ErrFar} {
		if ends[err] < 50 {
			t.Errorf("the programs of this test end too seldom with %d: %v", err, ends)
		}
	}
}

// renamed returns lines with other symbols.
func renamed(l []lines.Line, prefix string) []lines.Line {
	var all []lines.Line
	for _, x := range l {
		y := lines.Line{Word: x.Word}
		for _, label := range x.Labels {
			y.Labels = append(y.Labels, prefix+label)
		}
		for _, arg := range x.Args {
			if modelKind(arg) == 's' {
				arg = prefix + arg
			}
			y.Args = append(y.Args, arg)
		}
		all = append(all, y)
	}
	return all
}

func TestP704Parts(t *testing.T) {
	r := random(704)
	joined := 0
	for range 20000 {
		at := uint32(4*r(1<<10)) - 2048
		first := append(renamed(anyProgram(r, 1+r(6)), "a"), line("align"))
		then := renamed(anyProgram(r, 1+r(6)), "b")
		x, _, e := Assemble(first, at)
		if e != api.OK {
			continue
		}
		y, n, e := Assemble(then, at+uint32(len(x.Bytes)))
		whole, m, err := Assemble(append(slices.Clone(first), then...), at)
		if e != api.OK {
			if err != e || m != n+len(first) {
				t.Errorf("%s, %s: %d, %d; not %d, %d", short(first), short(then), m, err, n+len(first), e)
			}
			continue
		}
		joined++
		want := Out{append(x.Bytes, y.Bytes...), append(x.Symbols, y.Symbols...)}
		if !sameOut(whole, want) || m != 0 || err != api.OK {
			t.Errorf("%s, %s: %v, %d, %d; not %v", short(first), short(then), whole, m, err, want)
		}
	}
	if joined < 1000 {
		t.Error("too few parts are without an error:", joined)
	}
}

// The word of each instruction is decoded as what its line states.
func TestP705Decoding(t *testing.T) {
	r := random(705)
	for w, form := range forms {
		if slices.Contains([]string{"", "align", "span", "space"}, w) { // they are no instructions
			continue
		}
		for range 400 {
			var args []string
			var v []int
			for _, kind := range form {
				switch kind {
				case 'r':
					v = append(v, r(32))
					args = append(args, "x"+strconv.Itoa(v[len(v)-1]))
				case 's':
					v = append(v, 0x12345ff8)
					args = append(args, "here")
				default:
					v = append(v, []int{r(32), 2 * r(16), r(2), 30}[r(4)])
					args = append(args, strconv.Itoa(v[len(v)-1]))
				}
			}
			o, _, err := Assemble([]lines.Line{{Labels: []string{"here"}, Word: w, Args: args}}, 0x12345ff8)
			want := modelRecords(w, v)
			if err != api.OK {
				if err != api.ErrInst || isa.Legal(want[0]) {
					t.Errorf("%s %v: %d", w, args, err)
				}
				continue
			}
			if got := decoded(t, o.Bytes); !slices.Equal(got, want) {
				t.Errorf("%s %v is decoded as %v, not as %v", w, args, got, want)
			}
		}
	}
}

// By hand: each operation's own fields, and each pseudo-instruction's.
func TestP705DecodingByHand(t *testing.T) {
	for s, want := range map[string]isa.Inst{
		"lui x3 5": {Op: isa.LUI, Rd: 3, Imm: 5}, "auipc x3 5": {Op: isa.AUIPC, Rd: 3, Imm: 5}, "jal x3 -6": {Op: isa.JAL, Rd: 3, Imm: -6},
		"jalr x3 -6 x4": {Op: isa.JALR, Rd: 3, Rs1: 4, Imm: -6}, "lw x3 -6 x4": {Op: isa.LW, Rd: 3, Rs1: 4, Imm: -6},
		"lhu x3 -6 x4": {Op: isa.LHU, Rd: 3, Rs1: 4, Imm: -6}, "addi x3 x4 -6": {Op: isa.ADDI, Rd: 3, Rs1: 4, Imm: -6},
		"andi x3 x4 -6": {Op: isa.ANDI, Rd: 3, Rs1: 4, Imm: -6}, "slli x3 x4 6": {Op: isa.SLLI, Rd: 3, Rs1: 4, Imm: 6},
		"srai x3 x4 6": {Op: isa.SRAI, Rd: 3, Rs1: 4, Imm: 6}, "beq x3 x4 -6": {Op: isa.BEQ, Rs1: 3, Rs2: 4, Imm: -6},
		"bgeu x3 x4 -6": {Op: isa.BGEU, Rs1: 3, Rs2: 4, Imm: -6}, "sb x3 -6 x4": {Op: isa.SB, Rs1: 4, Rs2: 3, Imm: -6},
		"sw x3 -6 x4": {Op: isa.SW, Rs1: 4, Rs2: 3, Imm: -6}, "add x3 x4 x5": {Op: isa.ADD, Rd: 3, Rs1: 4, Rs2: 5},
		"and x3 x4 x5": {Op: isa.AND, Rd: 3, Rs1: 4, Rs2: 5}, "remu x3 x4 x5": {Op: isa.REMU, Rd: 3, Rs1: 4, Rs2: 5},
		"ecall": {Op: isa.ECALL}, "ebreak": {Op: isa.EBREAK}, "fence -6": {Op: isa.FENCE, Imm: -6},
		"li x3 6": {Op: isa.ADDI, Rd: 3, Imm: 6}, "mv x3 x4": {Op: isa.ADDI, Rd: 3, Rs1: 4}, "nop": {Op: isa.ADDI}, "ret": {Op: isa.JALR, Rs1: 1},
		"call 6": {Op: isa.JAL, Rd: 1, Imm: 6}, "j 6": {Op: isa.JAL, Imm: 6}, "not x3 x4": {Op: isa.XORI, Rd: 3, Rs1: 4, Imm: -1},
		"neg x3 x4": {Op: isa.SUB, Rd: 3, Rs2: 4}, "beqz x3 6": {Op: isa.BEQ, Rs1: 3, Imm: 6}, "bnez x3 6": {Op: isa.BNE, Rs1: 3, Imm: 6},
	} {
		o, _, err := Assemble(parse(s), 0)
		if err != api.OK || len(o.Bytes) != 4 || decoded(t, o.Bytes)[0] != want {
			t.Errorf("%s: % x, %d; not %v", s, o.Bytes, err, want)
		}
	}
}

// overlaps reports whether two texts share bytes.
func overlaps(a, b string) bool {
	from, other := uintptr(unsafe.Pointer(unsafe.StringData(a))), uintptr(unsafe.Pointer(unsafe.StringData(b)))
	return a != "" && b != "" && from < other+uintptr(len(b)) && other < from+uintptr(len(a))
}

// What is written to one result, its unused capacity too, is seen nowhere else.
func TestP701ResultsShareNoMemory(t *testing.T) {
	l := parse("alpha: beta: call gamma;la t0 alpha;gamma: text \"abc\";align;word beta")
	want, _, _ := modelAssemble(l, 64)
	a, _, _ := Assemble(l, 64)
	b, _, _ := Assemble(l, 64)
	for k, s := range a.Symbols {
		for _, x := range l {
			for _, w := range append(append(slices.Clone(x.Labels), x.Word), x.Args...) {
				if overlaps(s.Name, w) {
					t.Errorf("the symbol %q lies in the lines' word %q", s.Name, w)
				}
			}
		}
		for j, other := range b.Symbols {
			if overlaps(s.Name, other.Name) || j < k && overlaps(s.Name, a.Symbols[j].Name) {
				t.Errorf("the symbols %q and %q share memory", s.Name, other.Name)
			}
		}
	}
	all := a.Bytes[:cap(a.Bytes)]
	for k := range all {
		all[k] = 0xee
	}
	symbols := a.Symbols[:cap(a.Symbols)]
	for k := range symbols {
		symbols[k] = Symbol{"spoilt", 1}
	}
	if !sameOut(b, want) {
		t.Error("what is written to one result is seen in another:", b)
	}
	check(t, l, 64)
}

// Neither the lines nor what stands behind their length is changed, and nothing is kept from call to call.
func TestP701ArgumentsAreUnchanged(t *testing.T) {
	fresh := func() []lines.Line {
		all := []string{"t0", "t1", "t2", "t3", "x", "y"}
		l := make([]lines.Line, 0, 20)
		for _, w := range words() {
			for n := range 4 {
				l = append(l, lines.Line{Labels: append(make([]string, 0, 9), "l"+strconv.Itoa(len(l))), Word: w, Args: slices.Clone(all)[:n]})
			}
		}
		return l
	}
	l, same := fresh(), fresh()
	behind := func(l []lines.Line) (all [][]string) {
		for _, x := range l[:cap(l)] {
			all = append(all, x.Labels[:cap(x.Labels)], x.Args[:cap(x.Args)])
		}
		return all
	}
	for k := range l {
		n, err := Size(l[k])
		if m, e := Size(l[k]); n != m || err != e {
			t.Errorf("Size(%v) is %d, %d and then %d, %d", l[k], n, err, m, e)
		}
		o, n, err := Assemble(l[:k], 0)
		if p, m, e := Assemble(l[:k], 0); n != m || err != e || !sameOut(o, p) {
			t.Errorf("Assemble(%s) is %v, %d, %d and then %v, %d, %d", short(l[:k]), o, n, err, p, m, e)
		}
		Assemble(l[k:k+1], 0)
	}
	right := parse("a: li t0 5000;la t1 a;word 1 a;byte 1 2;text \"a\";align;beqz t0 a;neg t0 t1;call a")
	again := parse("a: li t0 5000;la t1 a;word 1 a;byte 1 2;text \"a\";align;beqz t0 a;neg t0 t1;call a")
	Assemble(right, 0)
	if !reflect.DeepEqual(behind(l), behind(same)) || !reflect.DeepEqual(l, same) || !reflect.DeepEqual(right, again) {
		t.Error("arguments are changed")
	}
}

// Nothing, nil or empty, and lines of nothing.
func TestP701NilAndEmpty(t *testing.T) {
	for _, l := range [][]lines.Line{nil, {}, {{}}, {{Labels: []string{}, Args: []string{}}}, {{Args: []string{"", "t0", "\""}}}, {{Labels: []string{""}}}} {
		for _, at := range []uint32{0, 1, 2, 3, 4, 1<<32 - 4, 1<<32 - 1} {
			check(t, l, at)
		}
	}
	if n, err := Size(lines.Line{}); n != 0 || err != api.OK {
		t.Errorf("Size of nothing: %d, %d", n, err)
	}
}
