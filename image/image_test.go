package image

import (
	"math"
	"slices"
	"strconv"
	"strings"
	"testing"

	"swage/api"
	"swage/asm"
	"swage/lines"
)

func TestP1002Examples(t *testing.T) {
	x, err := check(t, "def A 0\nret\n", 0)
	want := "\x00\x00\x00\x00\x14\x00\x00\x00\x04\x00\x00\x00\x00\x01A\x00" + "\x00\x00\x00\x00" + "\x67\x80\x00\x00"
	if string(x.Bytes) != want || err != api.OK {
		t.Errorf("%q, %d; not %q", x.Bytes, err, want)
	}
	if want := []asm.Symbol{{Name: "^0A", At: 0}, {Name: "=0A", At: 20}, {Name: "=0A$", At: 24}}; !slices.Equal(x.Symbols, want) {
		t.Errorf("the symbols are %v, not %v", x.Symbols, want)
	}
	fails(t, "def A", api.ErrLine)
	fails(t, "def A 16", api.ErrLine)
	fails(t, "def A 0;def A 0", api.ErrTwice)
	fails(t, "then", api.ErrPair)
}

// Sources without directives, right and wrong ones.
func TestP1002NoDirectives(t *testing.T) {
	for _, s := range []string{
		"nop", "a:", "a: b: nop;c:", "a: j a", "word 1 a 'b';a:", "text \"a b\" // c;byte 1;align;ret", "span a b;a: space 5;b:", "li t0 70000;la t0 a;a:",
		"if t0 eq t1;nop;else;ret;then", "x: begin;nop;while a0 lt a1;begin;again;repeat", "begin;until t0 eq zero", "space 131072", " \t;;//;",
		"=0A: nop;^1B: j =0A", "=0A$:", "$:", "defs: nop", "list:", "def: part: heads: head: list: nop", "j def;def:", "word part head list heads;part: head: list: heads:",
		"DEF A 0", "Def A 0", "def, A 0", "parts A", "Part A", "LIST 0", "lists 0", "Heads", "headss", "Head", "head:", ".def A 0", "\"def\" A 0",
		"then", "if a eq b", "if a EQ b", "again", "@a: nop", "@: ret", "nope", "j nowhere", "a: a:", "a: nop;a: nop", "byte 1;nop", "space 131072;byte 1", "space 131073",
		"addi t0 t0 2048", "\"", "\"a\"b", "text \"a", "j far;space 131060;far:", "j far;space 2000000;far:", "beq t0 t1 far;space 5000;far:",
	} {
		for _, at := range []uint32{0, 4, 64, 1, 2, 3, 0x7ffffffd, 0x80000000, 1<<32 - 8, 1<<32 - 4, 1<<32 - 1} {
			x, err := check(t, source(s), at)
			l, _, e := lines.Parse(source(s))
			want := Image{}
			if e == api.OK {
				want, e = assembled(l, at)
			}
			if err != e || !same(x, want) {
				t.Errorf("Build(%q, %#x) = %.300v, %d; not %.300v, %d", s, at, x, err, want, e)
			}
		}
	}
}

func TestP1002NoLines(t *testing.T) {
	for _, s := range []string{"", "\n", "\n\n", " ", "//", "// def A 16\n", "list 0", "list 1\nlist 0\n"} {
		for _, at := range []uint32{0, 4, 1<<32 - 4} {
			if x, err := check(t, s, at); len(x.Bytes) != 0 || len(x.Symbols) != 0 || err != api.OK {
				t.Errorf("Build(%q, %#x) = %v, %d", s, at, x, err)
			}
		}
		for _, at := range []uint32{1, 2, 3, 5, 1<<32 - 1} {
			if _, err := check(t, s, at); err != api.ErrSize {
				t.Errorf("Build(%q, %#x): %d", s, at, err)
			}
		}
	}
}

func TestP1002CountOfArgs(t *testing.T) {
	for word, args := range map[string][]string{"list": {"1"}, "def": {"A", "0"}, "part": {"A"}, "heads": nil} {
		all := append(slices.Clone(args), "0", "A", "0")
		for n := range len(all) + 1 {
			for _, label := range []string{"", "a: ", "a: b: "} {
				s := label + word + " " + strings.Join(all[:n], " ")
				if n == len(args) {
					fits(t, s)
				} else {
					fails(t, s, api.ErrLine)
				}
				fails(t, "nop;"+s+";list 2;then", api.ErrLine)
			}
		}
	}
	for _, s := range []string{"def 0 A", "def A A", "list A", "heads heads", "heads 0", "heads \"\"", "part A A", "part A 0", "def A 0 0", "def A B 0", "list 0 0", "list 0 1"} {
		fails(t, s, api.ErrLine)
	}
}

func TestP1002List(t *testing.T) {
	becomes(t, "list 0", "")
	becomes(t, "list 1", "")
	becomes(t, "a: list 0;b: c: list 1;nop;d: list 1", "a:;b: c: nop;d:")
	becomes(t, "list 0;part A;list 1;part A;part B;list 0;part B", "align;word 0;=0A:;=0A$: align;word 0;=1A:;=1A$: align;word 0;=1B:;=1B$: align;word 0;=0B:;=0B$:")
	for _, n := range []string{
		"00", "01", "001", "+0", "+1", "-0", "-1", "--1", "0x0", "0x1", "0x01", "0X1", "2", "3", "9", "10", "11", "15", "'0'", "'1'", "'\x00'", "'\x01'", "'x'", "x", "A",
		"t0", "x0", "x1", "zero", "\"0\"", "\"1\"", "\"\"", "\" \"", "0:", "1:", ":", "0,", "1.", "1e0", "0b1", "1_", "4294967296", "4294967297", "-4294967295", "18446744073709551617", "list", "@0",
	} {
		fails(t, "list "+n, api.ErrLine)
		fails(t, "def A 0;a: list "+n+";part B", api.ErrLine)
	}
}

func TestP1002Head(t *testing.T) {
	for _, args := range []string{"", " 0", " A", " A 0", " A 0 0", " \"\"", " a b c d e f"} {
		for _, label := range []string{"", "a: ", "a: b: ", "head: ", "@a: "} {
			fails(t, label+"head"+args, api.ErrLine)
			fails(t, "list 1;def A 0;nop;"+label+"head"+args+";part \"a b\"", api.ErrLine)
		}
	}
	fits(t, "head: j head")
}

func TestP1002Flags(t *testing.T) {
	for flags := range 16 {
		n := strconv.Itoa(flags)
		hex := strconv.FormatInt(int64(flags), 16)
		for _, s := range []string{n, "0" + n, "000000000000000000000000" + n, "0x" + hex, "0x0" + hex, "0x00000000000000000" + hex} {
			x := fits(t, "def A "+s+";ret")
			if len(x.Bytes) != 24 || x.Bytes[12] != byte(flags) {
				t.Errorf("the flags %s: %q", s, x.Bytes)
			}
		}
		if b := string([]byte{byte(flags)}); !strings.Contains("\t\n", b) {
			if x := fits(t, "def A '"+b+"'"); len(x.Bytes) != 20 || x.Bytes[12] != byte(flags) {
				t.Errorf("the flags %q: %q", b, x.Bytes)
			}
		}
	}
	for s, want := range map[string]byte{"-0": 0, "-00": 0, "0x0": 0, "0015": 15, "0xf": 15} {
		if x := fits(t, "def A "+s); x.Bytes[12] != want {
			t.Errorf("the flags %s: %q", s, x.Bytes)
		}
	}
	for _, s := range []string{
		"-1", "-15", "-16", "16", "17", "31", "32", "255", "256", "257", "271", "65536", "2147483647", "2147483648", "-2147483648", "-2147483649", "4294967295", "4294967296", "4294967297",
		"18446744073709551616", "18446744073709551617", "99999999999999999999999999", "0x10", "0xF", "0xA", "0X1", "0x", "0x-1", "-0x1", "+1", "+0", "--1", "1.", "1.0", "1e0", "0b1", "0o7", "1_0",
		"' '", "'!'", "'0'", "'a'", "'\xff'", "''", "'", "'\x01", "\"0\"", "\"1\"", "\"\"", "A", "a", "f", "zero", "t0", "x0", "0:", "1,", ",", "-", ":", "@0", "=0A", "^0A",
	} {
		fails(t, "def A "+s, api.ErrLine)
		fails(t, "A: nop;list 1;def A "+s+";nop", api.ErrLine)
	}
}

// Which error comes first where several lines, or several parts of a line, have one.
func TestP1002WhichErrorComesFirst(t *testing.T) {
	long := strings.Repeat("a", api.MaxLine+1)
	for s, want := range map[string]api.Errno{
		// What can't be parsed comes before all directives.
		"def A 16;" + long:           api.ErrSize,
		"head;" + long:               api.ErrSize,
		"part \"a b\";nop \"":        api.ErrLine,
		"part \"a b\";\"a\"b":        api.ErrLine,
		"part \"a b\";\";" + long:    api.ErrLine,
		"then;part \"a b\";" + long:  api.ErrSize,
		"a: a: nop;then;" + long:     api.ErrSize,
		"part \"a b\" // x;" + long:  api.ErrSize,
		"part \"a b\";// " + long:    api.ErrSize,
		"part A;part A;text \"a;nop": api.ErrLine,
		// The first wrong directive comes before the others.
		"def A;part \"a b\"":             api.ErrLine,
		"part \"a b\";def A":             api.ErrName,
		"def \"a b\" 0;def A 16":         api.ErrName,
		"def A 16;def \"a b\" 0":         api.ErrLine,
		"head;part \"a b\"":              api.ErrLine,
		"part \"a b\";head":              api.ErrName,
		"part \"a b\";list 2":            api.ErrName,
		"list 2;part \"a b\"":            api.ErrLine,
		"heads 1;part \"a b\"":           api.ErrLine,
		"part \"a b\";heads 1":           api.ErrName,
		"nop;nop;part \x7f;nop;def":      api.ErrName,
		"list 1;heads;part A;part \x7f":  api.ErrName,
		"def A 0;def A 0;part \"a b\"":   api.ErrName,
		"def A 0;def B 0;def \"a b\" -0": api.ErrName,
		// In a line, the number of Args and the flags come before the name.
		"def \"a b\"":         api.ErrLine,
		"def \"a b\" 16":      api.ErrLine,
		"def \"a b\" -1":      api.ErrLine,
		"def \"a b\" x":       api.ErrLine,
		"def \"a b\" 0 0":     api.ErrLine,
		"def \"a b\" 16 0":    api.ErrLine,
		"def \"a b\" \"c d\"": api.ErrLine,
		"part \"a b\" 0":      api.ErrLine,
		"part A \"a b\"":      api.ErrLine,
		"def \"a b\" 15":      api.ErrName,
		"part \x7f":           api.ErrName,
		// Each directive's error comes before flow's errors.
		"then;def A":                     api.ErrLine,
		"then;part \"a b\"":              api.ErrName,
		"if a eq b;part \"a b\"":         api.ErrName,
		"if a eq b;head":                 api.ErrLine,
		"if x;part \x7f":                 api.ErrName,
		"@a: nop;list 2":                 api.ErrLine,
		"@a: list 2":                     api.ErrLine,
		"@a: def A 16":                   api.ErrLine,
		"@a: head":                       api.ErrLine,
		"@a: heads 0":                    api.ErrLine,
		"if a eq b;else;else;part \x80;": api.ErrName,
		// And those before asm's errors.
		"nope;then":                        api.ErrPair,
		"a: a: nop;if t0 eq t0":            api.ErrPair,
		"def A 0;def A 0;then":             api.ErrPair,
		"byte 1;nop;if t0 xx t1":           api.ErrLine,
		"j nowhere;@a: nop":                api.ErrName,
		"a: a: nop;@a: def A 0":            api.ErrName,
		"a: a: nop;@a: part A":             api.ErrName,
		"a: a: nop;@a: heads":              api.ErrName,
		"a: a: nop;@a: list 1":             api.ErrName,
		"then;@a: list 1":                  api.ErrPair,
		"@a: part A;then":                  api.ErrName,
		"if t0 eq t1;@a: def A 0;then":     api.ErrName,
		"space 131072;def A 0;begin":       api.ErrPair,
		"begin;def A 0;def A 0;part A":     api.ErrPair,
		"a: a: nop;nope;part A;then":       api.ErrPair,
		"a: a: nop;nope;part A;part \x7f;": api.ErrName,
		// Of asm's errors, the first pass's come first, line by line.
		"def A 0;def A 0;nope":           api.ErrTwice,
		"nope;def A 0;def A 0":           api.ErrLine,
		"j nowhere;def A 0;def A 0":      api.ErrTwice,
		"byte 1;nop;def A 0;def A 0":     api.ErrFault,
		"part A;part A;byte 1;nop":       api.ErrTwice,
		"space 131072;def A 0;def A 0":   api.ErrSize,
		"def A 0;space 131072;def A 0":   api.ErrSize,
		"def A 0;j nowhere":              api.ErrName,
		"def A 0;addi t0 t0 2048;j x":    api.ErrInst,
		"j =1A;def A 0":                  api.ErrName,
		"j =0A$;part A":                  api.OK,
		"beqz t0 =0B;def A 0;space 5000": api.ErrName,
		"beqz t0 =0B;space 5000;part B":  api.ErrFar,
	} {
		if want == api.OK {
			fits(t, s)
		} else {
			fails(t, s, want)
		}
	}
}

// A place that is askew is asm's error: those of the lines come before it.
func TestP1002Askew(t *testing.T) {
	for _, at := range []uint32{1, 2, 3, 63, 65, 1<<32 - 1, 1<<32 - 3} {
		for s, want := range map[string]api.Errno{
			"": api.ErrSize, "def A 0": api.ErrSize, "nop": api.ErrSize, "heads": api.ErrSize, "def A 0;def A 0": api.ErrSize, "nope": api.ErrSize,
			"def A": api.ErrLine, "part \x7f": api.ErrName, "head": api.ErrLine, "then": api.ErrPair, "@a: part A": api.ErrName, "\"": api.ErrLine,
		} {
			if x, err := check(t, source(s), at); err != want || len(x.Bytes) != 0 || len(x.Symbols) != 0 {
				t.Errorf("Build(%q, %#x) = %v, %d; not %d", s, at, x, err, want)
			}
		}
	}
}

// A name may stand once in each list, whatever defines it.
func TestP1002NamesThatAreThereTwice(t *testing.T) {
	for _, first := range []string{"def A 0", "def A 15", "part A"} {
		for _, second := range []string{"def A 0", "def A 1", "part A"} {
			for _, between := range []string{";", ";nop;", ";heads;", ";list 1;part A;list 0;", ";def B 0;", ";list 0;"} {
				fails(t, first+between+second, api.ErrTwice)
				fits(t, first+";list 1;"+second+";nop")
				fails(t, "list 1;"+first+strings.ReplaceAll(between, "list 0", "list 1")+second, api.ErrTwice)
			}
		}
	}
	for _, s := range []string{
		"=0A: nop;def A 0", "part A;=0A:", "=0A$: part A", "part A;=0A$: list 1", "^0A:;def A 0", "def A 0;a: ^0A:", "^0A: def A 0", "=0A: def A 0", "=0A$: def A 0", "=0A: part A",
		"a: part A;a: def B 0", "a: list 0;a: list 1", "a: heads;a: heads", "a: a: def A 0", "part A$;part A", "part A;part A$", "def A 0;=0A$: heads",
		"list 1;^1A: part A;def A 0",
	} {
		fails(t, s, api.ErrTwice)
	}
	for _, s := range []string{"^0A: part A", "=1A: ^1A: =1A$: part A", "part A;part a;part AA", "part 1A;list 1;part A", "part =0A;part A", "A: part A", "part A$;list 1;part A"} {
		fits(t, s)
	}
}

// Too many lines for lines, for asm when the directives are replaced, and too many bytes.
func TestP1002TooLong(t *testing.T) {
	fits(t, strings.Repeat(";", api.MaxLines))
	fails(t, strings.Repeat(";", api.MaxLines+1), api.ErrSize)
	fails(t, "head"+strings.Repeat(";", api.MaxLines+1), api.ErrSize)
	fails(t, "head"+strings.Repeat(";", api.MaxLines), api.ErrLine)
	fits(t, "//"+strings.Repeat("a", api.MaxLine-2))
	fails(t, "//"+strings.Repeat("a", api.MaxLine-1), api.ErrSize)
	fits(t, strings.Repeat("list 1;", api.MaxLines))

	// Each of these stands for nine lines in all, the one with its end label counted.
	words := manyWords(3641, "def ", " 0;")
	fits(t, words[0]+strings.Join(words[1:3640], "")+strings.Repeat(";", 8))
	fails(t, words[0]+strings.Join(words[1:3640], "")+strings.Repeat(";", 9), api.ErrSize)
	fails(t, strings.Join(words, ""), api.ErrSize)
	fails(t, strings.Join(words, "")+"then", api.ErrPair)
	fails(t, strings.Join(words, "")+"part \x7f", api.ErrName)
	// And each of these for four.
	parts := manyWords(8192, "part ", ";")
	fits(t, strings.Join(parts, ""))
	fails(t, strings.Join(parts, "")+";", api.ErrSize)
	fails(t, strings.Join(parts, "")+";;head", api.ErrLine)

	tables := strings.Repeat("heads;", api.MaxImage/128)
	fits(t, tables)
	fails(t, tables+";", api.ErrSize)
	fails(t, tables+"byte 0", api.ErrSize)
	fails(t, strings.Repeat("heads;", 4000)+"then", api.ErrPair)

	fits(t, "space 131052;def A 0")
	fails(t, "space 131053;def A 0", api.ErrSize)
	fails(t, "space 131052;def A 0;byte 0", api.ErrSize)
	fails(t, "space 131052;def AAA 0", api.ErrSize)
	fits(t, "space 131068;part A")
	fails(t, "space 131069;part A", api.ErrSize)
	fits(t, "space 130944;heads")
	fails(t, "space 130945;heads", api.ErrSize)
	fails(t, "space 131072;heads", api.ErrSize)
}

// manyWords returns lines that define different words.
func manyWords(n int, ahead, behind string) []string {
	var all []string
	for k := range n {
		all = append(all, ahead+strconv.Itoa(k)+behind)
	}
	return all
}

func TestP1002At(t *testing.T) {
	x := fits(t, "a: b: nop;list 1;c: def DUP 2;ret;d: part x;e: heads;f:")
	for name, want := range map[string]uint32{
		"a": 64, "b": 64, "c": 68, "^1DUP": 68, "=1DUP": 92, "=1DUP$": 96, "d": 96, "=1x": 100, "=1x$": 100, "e": 100, "f": 228,
	} {
		if at, ok := x.At(name); at != want || !ok {
			t.Errorf("At(%q) = %d, %v; not %d", name, at, ok, want)
		}
	}
	for _, name := range []string{"", " ", "A", "g", "DUP", "=DUP", "=0DUP", "^0DUP", "1DUP", "=1DUP ", "=1dup", "=1DUP$$", "^1DUP$", "^1x", "=0x", "a:", "nop", "list", "def", "@0", "\x00", strings.Repeat("a", 1<<20)} {
		if at, ok := x.At(name); at != 0 || ok {
			t.Errorf("At(%q) = %d, %v", name, at, ok)
		}
	}
	for _, s := range x.Symbols {
		if at, ok := x.At(s.Name); at != s.At || !ok {
			t.Errorf("At(%q) = %d, %v; not %d", s.Name, at, ok, s.At)
		}
	}
	x, _ = check(t, "a: nop\n", 0)
	if at, ok := x.At("a"); at != 0 || !ok {
		t.Errorf("At of a label at 0 = %d, %v", at, ok)
	}
}

// What an Image that Build did not return has of symbols counts as well: of several the first one.
func TestP1002AtOfOtherImages(t *testing.T) {
	if at, ok := (Image{}).At("a"); at != 0 || ok {
		t.Errorf("At of no symbols = %d, %v", at, ok)
	}
	if at, ok := (Image{}).At(""); at != 0 || ok {
		t.Errorf("At(\"\") of no symbols = %d, %v", at, ok)
	}
	x := Image{Symbols: []asm.Symbol{{Name: "b", At: 5}, {Name: "a", At: 1<<32 - 1}, {Name: "a", At: 2}, {Name: "b"}, {Name: "", At: 7}, {Name: "", At: 8}, {Name: "c"}}}
	for name, want := range map[string]uint32{"a": 1<<32 - 1, "b": 5, "": 7, "c": 0} {
		if at, ok := x.At(name); at != want || !ok {
			t.Errorf("At(%q) = %d, %v; not %d", name, at, ok, want)
		}
	}
	if at, ok := x.At("d"); at != 0 || ok {
		t.Errorf("At(d) = %d, %v", at, ok)
	}
}

func TestP1002Label(t *testing.T) {
	if got := Label(0, "DUP"); got != "=0DUP" {
		t.Errorf("Label(0, DUP) = %q", got)
	}
	digits := map[int]string{
		math.MinInt: "0", -10: "0", -1: "0", 0: "0", 1: "1", 2: "2", 9: "9", 10: "10", 11: "11", 99: "99", 100: "100",
		1 << 31: "2147483648", 1 << 32: "4294967296", math.MaxInt: "9223372036854775807",
	}
	for list, want := range digits {
		for _, name := range []string{"", "A", "DUP", " ", "a b", "0", "=", "=0A", "$", "\x00", "\xff\xfe", "é", "\n", "\"", strings.Repeat("x", 1<<16)} {
			if got := Label(list, name); got != "="+want+name {
				t.Errorf("Label(%d, %q) = %q", list, short(name), short(got))
			}
		}
		for b := range 256 {
			if name := string([]byte{byte(b)}); Label(list, name) != "="+want+name {
				t.Errorf("Label(%d, %q) = %q", list, name, Label(list, name))
			}
		}
	}
}
