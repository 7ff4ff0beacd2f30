package image

import (
	"encoding/binary"
	"slices"
	"strconv"
	"strings"
	"testing"

	"swage/api"
	"swage/lines"
	"swage/names"
)

// prefix is what becomes of "def A 0" where nothing is defined ahead of it.
const prefix = "align;^0A: word 0;word =0A;span =0A =0A$;byte 0 1 65;align;word ^0A;=0A:;"

func TestP1002Def(t *testing.T) {
	becomes(t, "def A 0", prefix+"=0A$:")
	becomes(t, "def A 0;ret", prefix+"ret;=0A$:")
	becomes(t, "nop;def A 0;ret", "nop;"+prefix+"ret;=0A$:")
	becomes(t, "byte 1 2 3;def A 0;byte 1", "byte 1 2 3;"+prefix+"byte 1;=0A$:")
	becomes(t, "def DUP 0x0b;lw t0 0 s0;ret", "^0DUP: word 0 =0DUP;span =0DUP =0DUP$;byte 11 3 68 85 80 0 0 0;word ^0DUP;=0DUP: lw t0 0 s0;ret;=0DUP$:")
	becomes(t, "list 1;def DUP 2;ret", "^1DUP: word 0 =1DUP;word 4;byte 2 3 68 85 80 0 0 0;word ^1DUP;=1DUP: ret;=1DUP$:")
	becomes(t, "def \"ab\" 1;j =0\"ab\"", "^0\"ab\": word 0 =0\"ab\";word 4;byte 1 4 '\"' 'a' 'b' '\"' 0 0;word ^0\"ab\";=0\"ab\": j =0\"ab\";=0\"ab\"$:")
	becomes(t, "def : 1;def a: 2;def 5 3", "^0:: word 0 =0:;word 0;byte 1 1 ':' 0;word ^0:;=0:: =0:$:;"+
		"^0a:: word 0 =0a:;word 0;byte 2 2 'a' ':';word ^0a:;=0a:: =0a:$:;^05: word 0 =05;word 0;byte 3 1 '5' 0;word ^05;=05: =05$:")
}

func TestP1002Part(t *testing.T) {
	becomes(t, "part A", "align;word 0;=0A:;=0A$:")
	becomes(t, "part A;ret", "align;word 0;=0A: ret;=0A$:")
	becomes(t, "byte 1;part A;byte 2;list 1;part A;byte 3", "byte 1;align;word 0;=0A: byte 2;=0A$: align;word 0;=1A: byte 3;=1A$:")
	becomes(t, "part \"a\";call =0\"a\"", "word 0;=0\"a\": call =0\"a\";=0\"a\"$:")
	// A part is in no chain.
	becomes(t, "part A;def B 0;part Q;x: heads", "word 0;=0A: =0A$: ^0B: word 0 =0B 0;byte 0 1 66 0;word ^0B;=0B: =0B$: word 0;=0Q: =0Q$: x: word 0 0 0 0 0 0 ^0B;space 100")
}

func TestP1002NamesByLength(t *testing.T) {
	fails(t, "def 0", api.ErrLine)
	fails(t, "def  0", api.ErrLine)
	fails(t, "part", api.ErrLine)
	for n := 1; n <= api.MaxName+60; n++ {
		for _, name := range []string{strings.Repeat("a", n), strings.Repeat("~", n-1) + "!", strings.Repeat(":", n), strings.Repeat("$", n), "=" + strings.Repeat("0", n-1)} {
			for _, s := range []string{"def " + name + " 5;nop", "part " + name + ";nop", "nop;list 1;x: def " + name + " 15;byte 1"} {
				if n > api.MaxName {
					fails(t, s, api.ErrName)
					continue
				}
				if x := fits(t, s); strings.HasPrefix(s, "def") && len(x.Bytes) != (14+n+3)/4*4+8 {
					t.Errorf("%q: %d bytes", s, len(x.Bytes))
				}
			}
		}
	}
}

// Names with one byte of each value, at each place of names of some lengths, alone and quoted.
func TestP1002NamesWithEachByte(t *testing.T) {
	met := map[api.Errno]int{}
	for _, n := range []int{1, 2, 3, 5, 29, api.MaxName} {
		for at := range n {
			for b := range 256 {
				name := []byte(strings.Repeat("x", n))
				name[at] = byte(b)
				for _, arg := range []string{string(name), "\"" + string(name) + "\""} {
					_, err := check(t, "nop\npart "+arg+"\ndef Z"+arg+" 3\nnop", 64)
					_, e := check(t, "list 1\ndef "+arg+" 9\nnop", 64)
					met[err]++
					met[e]++
					l, _, parsed := lines.Parse("def " + arg + " 9")
					if parsed != api.OK || len(l) != 1 || len(l[0].Args) != 2 {
						continue // it isn't a single Arg
					}
					want := api.ErrName
					if names.Right(l[0].Args[0]) {
						want = api.OK
					}
					if e != want {
						t.Fatalf("the name %q: %d, not %d", arg, e, want)
					}
				}
			}
		}
	}
	for _, err := range []api.Errno{api.OK, api.ErrLine, api.ErrName} {
		if met[err] == 0 {
			t.Errorf("the error %d is not among those tried", err)
		}
	}
}

func TestP1002NamesAtTheEdges(t *testing.T) {
	for name, want := range map[string]api.Errno{
		"!": api.OK, "~": api.OK, "\x7f": api.ErrName, "\x80": api.ErrName, "\xff": api.ErrName, "\x00": api.ErrName, "\x1f": api.ErrName, "\r": api.ErrName, "é": api.ErrName,
		"a\x7f": api.ErrName, "a\r": api.ErrName, "\"\"": api.OK, "\"a\"": api.OK, "\"a b\"": api.ErrName, "\"\t\"": api.ErrName, "\" \"": api.ErrName, "\"\x7f\"": api.ErrName,
		"\"//\"": api.OK, "a//": api.OK, "/": api.OK, "/a/": api.OK, "@": api.OK, "@0": api.OK, "list": api.OK, "def": api.OK, "head": api.OK, "if": api.OK, "t0": api.OK, "0": api.OK, "-1": api.OK,
		"\"" + strings.Repeat("q", api.MaxName-2) + "\"": api.OK, "\"" + strings.Repeat("q", api.MaxName-1) + "\"": api.ErrName,
	} {
		for _, s := range []string{"def " + name + " 0", "part " + name, "list 1;def " + name + " 0x0f;ret"} {
			if want == api.OK {
				fits(t, s)
			} else {
				fails(t, s, want)
			}
		}
	}
}

// A directive's labels: at the header, not at the padding ahead of it nor at the code.
func TestP1002Labels(t *testing.T) {
	for s, want := range map[string]string{
		"p: q: def A 0;ret":               "p: q: " + strings.TrimPrefix(prefix, "align;") + "ret;=0A$:",
		"byte 1;p: q: def A 0;ret":        "byte 1;" + strings.Replace(prefix, "^0A:", "p: q: ^0A:", 1) + "ret;=0A$:",
		"byte 1;p: q: part A;ret":         "byte 1;align;p: q: word 0;=0A: ret;=0A$:",
		"byte 1;p: q: list 1;ret: byte 2": "byte 1;p: q: ret: byte 2",
		"byte 1;p: q: heads;r: byte 2":    "byte 1;p: q: space 128;r: byte 2",
		"p:;q: part A":                    "p: q: word 0;=0A: =0A$:",
		"byte 1;p:;q: part A":             "byte 1;p: align;q: word 0;=0A: =0A$:",
		"part A;byte 1;p: part B;p2:":     "word 0;=0A: byte 1;=0A$: align;p: word 0;=0B: p2: =0B$:",
		"part A;byte 1;p: heads":          "word 0;=0A: byte 1;=0A$: p: space 128",
		"part A;byte 1;p: list 0;q: nop":  "",
		"part A;byte 1;p: list 0;q: ret:": "word 0;=0A: byte 1;p: q: ret: =0A$:",
	} {
		if want == "" {
			fails(t, s, api.ErrFault)
		} else {
			becomes(t, s, want)
		}
	}
	x := fits(t, "byte 1;d: def A 0;byte 1;p: part B;byte 1;l: list 1;byte 1;h: heads;")
	for name, want := range map[string]uint32{"d": 68, "^0A": 68, "=0A": 88, "=0A$": 89, "p": 92, "=0B": 96, "l": 97, "=0B$": 98, "h": 98} {
		if at, ok := x.At(name); at != want || !ok {
			t.Errorf("%s is at %d, %v; not %d", name, at, ok, want)
		}
	}
}

// The order of the symbols is that of the lines that stand for the directives.
func TestP1002SymbolsInOrder(t *testing.T) {
	x := fits(t, "a: def A 0;b: list 1;c: c2: part B;d: heads;e: def C 0;f:")
	var order []string
	for _, s := range x.Symbols {
		order = append(order, s.Name)
	}
	want := strings.Fields("a ^0A =0A b =0A$ c c2 =1B =1B$ d e ^1C =1C f =1C$")
	if !slices.Equal(order, want) {
		t.Errorf("the symbols are %q, not %q", order, want)
	}
}

// Where a word ends, with code of several lengths and without any.
func TestP1002EndLabels(t *testing.T) {
	for _, word := range []string{"def A 0", "part A"} {
		for code, size := range map[string]uint32{"": 0, ";ret": 4, ";byte 1": 1, ";byte 1 2": 2, ";text \"abc\"": 3, ";nop;byte 1": 5, ";byte 1;align": 4, ";a:": 0, ";space 7": 7, ";align": 0} {
			for _, behind := range []string{
				"", ";", ";;", "; // x", ";def B 0", ";part B", ";heads", ";x: def B 0;nop", ";x: part B;nop", ";x: heads;byte 1", ";def B 0;def C 0;byte 1", ";part B;part C;heads;nop",
				";list 1", ";list 0;list 1;l: list 0", ";list 1;def A 0", ";list 1;x: part A", ";list 1;heads", ";x:", ";x: y:", ";x: list 1;def B 0",
			} {
				x := fits(t, "nop;"+word+code+behind)
				own, _ := x.At("=0A")
				end, ok := x.At("=0A$")
				if end-own != size || !ok {
					t.Errorf("%q: =0A$ is %d behind =0A, %v", word+code+behind, end-own, ok)
				}
				if word[0] == 'd' && binary.LittleEndian.Uint32(x.Bytes[12:]) != size {
					t.Errorf("%q: the Size is %d", word+code+behind, x.Bytes[12])
				}
			}
		}
	}
	// What is no directive that ends a word belongs to it.
	for behind, size := range map[string]uint32{";x: nop": 4, ";list 1;nop": 4, ";x: list 1;byte 1": 1, ";byte 1;list 0;byte 2;y:": 2, ";align;nop;x:;nop": 8, ";if t0 eq t1;list 1;nop;then": 8, ";byte 1;align": 4} {
		for _, end := range []string{"", ";def B 0", ";part B", ";heads", ";list 1;part A", ";x2: heads"} {
			x := fits(t, "def A 0"+behind+end)
			if got := binary.LittleEndian.Uint32(x.Bytes[8:]); got != size {
				t.Errorf("%q: the Size is %d", behind+end, got)
			}
		}
	}
}

// After heads there is no word that could be ended, nor ahead of the first one.
func TestP1002NoEndLabels(t *testing.T) {
	becomes(t, "part A;nop;heads;nop", "word 0;=0A: nop;=0A$: space 128;nop")
	becomes(t, "part A;nop;heads;nop;heads;nop;part B", "word 0;=0A: nop;=0A$: space 128;nop;space 128;nop;word 0;=0B: =0B$:")
	becomes(t, "nop;heads;nop;list 0;part A;heads", "nop;space 128;nop;word 0;=0A: =0A$: space 128")
	for _, s := range []string{"", "nop", "heads", "list 1;nop;heads"} {
		if x := fits(t, s); len(x.Symbols) != 0 {
			t.Errorf("%q has the symbols %v", s, x.Symbols)
		}
	}
}

// The labels that a source has without writing them: it can use them everywhere.
func TestP1002OwnLabelsAsSymbols(t *testing.T) {
	becomes(t, "call =0A;def A 0;call =1A;word ^0A =0A$;list 1;part A;j =0A;span =0A =1A$",
		"call =0A;^0A: word 0 =0A;span =0A =0A$;byte 0 1 65 0;word ^0A;=0A: call =1A;word ^0A =0A$;=0A$: word 0;=1A: j =0A;span =0A =1A$;=1A$:")
	fails(t, "def A 0;call =1A", api.ErrName)
	fails(t, "def A 0;call =0a", api.ErrName)
	fails(t, "part A;la t0 ^0A", api.ErrName)
	fails(t, "list 1;def A 0;la t0 ^0A", api.ErrName)
}

// Flow's words, around directives and between them.
func TestP1002FlowWords(t *testing.T) {
	becomes(t, "def A 0;if t0 eq t1;nop;else;ret;then;part B;begin;nop;until t0 ne t1",
		prefix+"bne t0 t1 x;nop;j y;x: ret;y: =0A$: word 0;=0B: z: nop;beq t0 t1 z;=0B$:", "x", "@0", "y", "@1", "z", "@2")
	becomes(t, "if t0 lt t1;def A 0;then", "bge t0 t1 x;"+prefix+"x: =0A$:", "x", "@0")
	becomes(t, "part A;begin;part B;nop;again", "word 0;=0A: x:;=0A$: word 0;=0B: nop;j x;=0B$:", "x", "@0")
	becomes(t, "begin;l: list 1;while t0 eq t1;heads;repeat", "x: l: bne t0 t1 y;space 128;j x;y:", "x", "@0", "y", "@1")
	fails(t, "part A;if t0 eq t1;part B", api.ErrPair)
	fails(t, "def A 0;begin;def B 0;then", api.ErrPair)
	fails(t, "list 0;begin;while t0 eq t1;heads;again", api.ErrPair)
	fails(t, "part A;if t0 eq;then", api.ErrLine)
	for _, s := range []string{"@a: def A 0", "@0: part A", "@: list 1", "@: heads", "a: @x: def A 0", "a: @x: list 0"} {
		fails(t, s, api.ErrName)
	}
}

// All that a header has, at several places, for names of each length and all flags.
func TestP1002Headers(t *testing.T) {
	for _, at := range []uint32{0, 4, 64, 1 << 16, 1<<31 - 4, 1 << 31, 1<<32 - 4096, 1<<32 - 64, 1<<32 - 24, 1<<32 - 20, 1<<32 - 4} {
		for n := 1; n <= api.MaxName; n++ {
			name := strings.Repeat("n", n-1) + "!"
			for flags := range 16 {
				s := "def " + name + " " + strconv.Itoa(flags) + "\nret\nbyte 1"
				x, err := check(t, s, at)
				want, _ := names.Bytes(names.Head{Name: name, Flags: flags, Xt: at + uint32(names.Length(name)) + 4, Size: 5})
				if err != api.OK || !slices.Equal(x.Bytes[:len(want)], want) {
					t.Fatalf("%q at %#x: %q, %d; not %q", s, at, x.Bytes, err, want)
				}
				if back := binary.LittleEndian.Uint32(x.Bytes[len(want):]); back != at || len(x.Bytes) != len(want)+9 {
					t.Fatalf("%q at %#x: the header's address is %#x", s, at, back)
				}
			}
		}
	}
}
