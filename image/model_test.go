package image

import (
	"bytes"
	"encoding/binary"
	"slices"
	"strconv"
	"strings"
	"testing"

	"swage/api"
	"swage/asm"
	"swage/flow"
	"swage/lines"
	"swage/names"
)

// A test's name begins with the number of the promise that it holds.

// source returns a source of which ; ends a line, as a line feed does.
func source(s string) string { return strings.ReplaceAll(s, ";", "\n") }

// parse returns the lines of a source of which ; ends a line.
func parse(s string) []lines.Line {
	l, at, err := lines.Parse(source(s))
	if err != api.OK {
		panic("line " + strconv.Itoa(at) + " of the test: " + short(s))
	}
	return l
}

// short is the beginning of a text, which is enough to tell which one it is.
func short(s string) string { return s[:min(len(s), 300)] }

// known is a Forth word of a source.
type known struct {
	list   int
	name   string
	flags  int
	header bool
	line   int    // from 0 on
	chain  [2]int // its list and bucket
}

func (w known) heading() string { return "^" + strconv.Itoa(w.list) + w.name }
func (w known) own() string     { return "=" + strconv.Itoa(w.list) + w.name }

// wordsOf returns the Forth words of lines whose directives are right.
func wordsOf(l []lines.Line) []known {
	var all []known
	list := 0
	for k, x := range l {
		switch x.Word {
		case "list":
			list = int(x.Args[0][0] - '0')
		case "def":
			flags, _ := lines.Number(x.Args[1])
			all = append(all, known{list, x.Args[0], flags, true, k, [2]int{list, names.Hash(x.Args[0])}})
		case "part":
			all = append(all, known{list: list, name: x.Args[0], line: k})
		}
	}
	return all
}

// lastOf returns the label of the last header of a chain ahead of a line, or 0.
func lastOf(all []known, chain [2]int, line int) string {
	found := "0"
	for _, w := range all {
		if w.header && w.chain == chain && w.line < line {
			found = w.heading()
		}
	}
	return found
}

// openAt returns the word in whose code a line stands, if it stands in one.
func openAt(l []lines.Line, all []known, line int) (known, bool) {
	for _, w := range slices.Backward(all) {
		if w.line < line {
			return w, !slices.ContainsFunc(l[w.line:line], func(x lines.Line) bool { return x.Word == "heads" })
		}
	}
	return known{}, false
}

// modelLine returns the text of the lines that stand for a line, and which of them has its labels.
func modelLine(l []lines.Line, all []known, at int) (text string, labelled int) {
	if at == len(l) || slices.Contains([]string{"def", "part", "heads"}, l[at].Word) {
		if w, ok := openAt(l, all, at); ok {
			text, labelled = w.own()+"$:\n", 1
		}
	}
	if at == len(l) {
		return text, labelled
	}
	here := slices.IndexFunc(all, func(w known) bool { return w.line == at })
	switch l[at].Word {
	case "list":
		return "\n", 0
	case "def":
		w := all[here]
		text += "align\n" + w.heading() + ": word " + lastOf(all, w.chain, at) + "\nword " + w.own() + "\nspan " + w.own() + " " + w.own() + "$\n"
		text += "byte " + strconv.Itoa(w.flags) + " " + strconv.Itoa(len(w.name))
		for _, b := range []byte(w.name) {
			text += " " + strconv.Itoa(int(b))
		}
		return text + "\nalign\nword " + w.heading() + "\n" + w.own() + ":\n", labelled + 1
	case "part":
		return text + "align\nword 0\n" + all[here].own() + ":\n", labelled + 1
	}
	for list := range 2 {
		for bucket := range 16 {
			text += "word " + lastOf(all, [2]int{list, bucket}, len(l)) + "\n"
		}
	}
	return text, labelled
}

// modelError says what error a line has as a directive.
func modelError(x lines.Line) api.Errno {
	count, is := map[string]int{"list": 1, "def": 2, "part": 1, "heads": 0, "head": -1}[x.Word]
	if !is {
		return api.OK
	}
	if len(x.Args) != count || x.Word == "list" && !slices.Contains([]string{"0", "1"}, x.Args[0]) {
		return api.ErrLine
	}
	if x.Word == "def" {
		if flags, ok := lines.Number(x.Args[1]); !ok || flags&^15 != 0 {
			return api.ErrLine
		}
	}
	if (x.Word == "def" || x.Word == "part") && !names.Right(x.Args[0]) {
		return api.ErrName
	}
	return api.OK
}

// modelLines writes each directive's lines as text, for which it looks back and forward in all lines,
// where the program keeps what it needs line by line.
func modelLines(l []lines.Line) ([]lines.Line, api.Errno) {
	for _, x := range l {
		if err := modelError(x); err != api.OK {
			return nil, err
		}
	}
	all := wordsOf(l)
	var out []lines.Line
	for at := range len(l) + 1 {
		if at < len(l) && !slices.Contains([]string{"list", "def", "part", "heads"}, l[at].Word) {
			out = append(out, l[at])
			continue
		}
		text, labelled := modelLine(l, all, at)
		written, line, err := lines.Parse(text)
		if err != api.OK {
			panic("line " + strconv.Itoa(line) + " of the model: " + text)
		}
		if at < len(l) {
			written[labelled].Labels = append(slices.Clone(l[at].Labels), written[labelled].Labels...)
		}
		out = append(out, written...)
	}
	return out, api.OK
}

// assembled returns what lines without directives are assembled to.
func assembled(l []lines.Line, at uint32) (Image, api.Errno) {
	l, _, err := flow.Plain(l)
	if err != api.OK {
		return Image{}, err
	}
	out, _, err := asm.Assemble(l, at)
	return Image{out.Bytes, out.Symbols}, err
}

func modelBuild(s string, at uint32) (Image, api.Errno) {
	l, _, err := lines.Parse(s)
	if err != api.OK {
		return Image{}, err
	}
	l, err = modelLines(l)
	if err != api.OK {
		return Image{}, err
	}
	return assembled(l, at)
}

func same(a, b Image) bool {
	return bytes.Equal(a.Bytes, b.Bytes) && slices.Equal(a.Symbols, b.Symbols)
}

// check holds Build against the model, and returns what it answered. Where there are words, their
// headers, their code's places and their chains are held against package names.
func check(t *testing.T, s string, at uint32) (Image, api.Errno) {
	t.Helper()
	want, err := modelBuild(s, at)
	got, e := Build(s, at)
	if e != err || !same(got, want) {
		t.Fatalf("Build(%q, %#x) =\n%.300v, %d; not\n%.300v, %d", short(s), at, got, e, want, err)
	}
	if e == api.OK {
		checkWords(t, s, at, got)
	}
	return got, e
}

// checker checks what an image has of the words of its source.
type checker struct {
	*testing.T
	Image
	at     uint32
	all    []known
	places map[string]uint32
	rising bool // no address goes round at 2^32
}

func checkWords(t *testing.T, s string, at uint32, x Image) {
	t.Helper()
	l, _, _ := lines.Parse(s)
	c := checker{T: t, Image: x, at: at, all: wordsOf(l), places: map[string]uint32{}, rising: int(at)+len(x.Bytes) < 1<<32}
	for _, s := range x.Symbols {
		c.places[s.Name] = s.At
	}
	last := map[[2]int]uint32{}
	for k, w := range c.all {
		c.place(w)
		if w.header {
			c.header(w, last[w.chain])
			last[w.chain] = c.symbol(w.heading())
		}
		if k > 0 && c.rising && c.symbol(w.own()) <= c.symbol(c.all[k-1].own()) {
			t.Fatalf("%q: %s isn't behind the word before it", short(s), w.own())
		}
	}
	for _, x := range l {
		// Without a label, one can't tell from outside where the heads are.
		if x.Word == "heads" && len(x.Labels) > 0 {
			c.heads(x.Labels[0])
		}
	}
}

// symbol returns the address of a symbol that must be there.
func (c checker) symbol(name string) uint32 {
	c.Helper()
	at, ok := c.places[name]
	if !ok {
		c.Fatalf("no symbol %q", name)
	}
	return at
}

// word returns the word at an address of the image.
func (c checker) word(at uint32) uint32 { return binary.LittleEndian.Uint32(c.Bytes[at-c.at:]) }

// place holds a word's code against what stands before it and behind it.
func (c checker) place(w known) {
	c.Helper()
	own, end := c.symbol(w.own()), c.symbol(w.own()+"$")
	ahead := uint32(0)
	if w.header {
		ahead = c.symbol(w.heading())
	}
	if own%4 != 0 || c.word(own-4) != ahead || end-own > uint32(len(c.Bytes)) {
		c.Fatalf("%s at %#x, up to %#x, with %#x ahead of it", w.own(), own, end, c.word(own-4))
	}
}

// header holds a word's header against the bytes that package names has for it.
func (c checker) header(w known, link uint32) {
	c.Helper()
	at, own := c.symbol(w.heading()), c.symbol(w.own())
	h := names.Head{Name: w.name, Flags: w.flags, Link: link, Xt: own, Size: c.symbol(w.own()+"$") - own}
	got, n, err := names.Read(c.Bytes[at-c.at:])
	if at%4 != 0 || got != h || err != api.OK || own != at+uint32(n)+4 || n != names.Length(w.name) {
		c.Fatalf("the header of %s, with the code at %#x, is %+v at %#x, %d; not %+v", w.own(), own, got, at, err, h)
	}
	if want, _ := names.Bytes(h); !bytes.HasPrefix(c.Bytes[at-c.at:], want) {
		c.Fatalf("the header of %s is not %q", w.own(), want)
	}
}

// heads follows all chains from the heads on. What ends a chain is told by the words that belong to
// it, for a header at 0 ends none here.
func (c checker) heads(label string) {
	c.Helper()
	from := c.symbol(label)
	for list := range 2 {
		for bucket := range 16 {
			link := c.word(from + uint32(64*list+4*bucket))
			last := uint32(1<<32 - 1)
			for _, w := range slices.Backward(c.all) {
				if !w.header || w.chain != [2]int{list, bucket} {
					continue
				}
				if at := c.symbol(w.heading()); link != at || c.rising && link >= last {
					c.Fatalf("chain %d of list %d comes to %#x behind %#x; %s is at %#x", bucket, list, link, last, w.own(), at)
				}
				last, link = link, c.word(link)
			}
			if link != 0 {
				c.Fatalf("chain %d of list %d ends with %#x", bucket, list, link)
			}
		}
	}
}

// becomes holds Build of a source against a source without directives, in which labels of flow's may
// have other names: each comes with flow's name behind it.
func becomes(t *testing.T, s, want string, renamed ...string) {
	t.Helper()
	for _, at := range []uint32{0, 4, 64, 0x12344, 1<<32 - 16} {
		got, err := check(t, source(s), at)
		plain, e := assembled(parse(want), at)
		for k, symbol := range plain.Symbols {
			if n := slices.Index(renamed, symbol.Name); n >= 0 {
				plain.Symbols[k].Name = renamed[n+1]
			}
		}
		if err != api.OK || e != api.OK || !same(got, plain) {
			t.Errorf("Build(%q, %#x) =\n%.300v, %d; not\n%.300v, %d", short(s), at, got, err, plain, e)
		}
	}
}

// fails holds Build of a source against an error, at places that have no error of their own.
func fails(t *testing.T, s string, err api.Errno) {
	t.Helper()
	for _, at := range []uint32{0, 64} {
		got, e := check(t, source(s), at)
		if e != err || len(got.Bytes) != 0 || len(got.Symbols) != 0 {
			t.Errorf("Build(%q, %d) = %.300v, %d; not %d", short(s), at, got, e, err)
		}
	}
}

// fits holds Build of a source against no error.
func fits(t *testing.T, s string) Image {
	t.Helper()
	x, err := check(t, source(s), 64)
	if err != api.OK {
		t.Errorf("Build(%q): %d", short(s), err)
	}
	return x
}

// random returns a source of numbers below n that is the same each time.
func random(seed uint64) func(n int) int {
	return func(n int) int {
		seed ^= seed << 13
		seed ^= seed >> 7
		seed ^= seed << 17
		return int(seed % uint64(n))
	}
}
