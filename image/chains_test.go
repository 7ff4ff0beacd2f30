package image

import (
	"encoding/binary"
	"strconv"
	"strings"
	"testing"

	"swage/api"
	"swage/lines"
	"swage/names"
)

// bucketOf returns n different names of one bucket.
func bucketOf(bucket, n int) []string {
	var all []string
	for k := 0; len(all) < n; k++ {
		if name := "w" + strconv.Itoa(k); names.Hash(name) == bucket {
			all = append(all, name)
		}
	}
	return all
}

// headsOf returns the words at a label of an image, which are heads.
func headsOf(x Image, at uint32, label string) [32]uint32 {
	from, _ := x.At(label)
	var all [32]uint32
	for k := range all {
		all[k] = binary.LittleEndian.Uint32(x.Bytes[int(from-at)+4*k:])
	}
	return all
}

func TestP1003HeadsOfNoWords(t *testing.T) {
	for _, s := range []string{"h: heads", "part A;h: heads;list 1;part A;part B", "nop;list 1;h: heads;list 0;part A", "byte 1;h: heads;byte 2"} {
		if x := fits(t, s); headsOf(x, 64, "h") != [32]uint32{} {
			t.Errorf("%q: %v", s, headsOf(x, 64, "h"))
		}
	}
	becomes(t, "heads", "space 128")
	becomes(t, "a: b: heads;c:", "a: b: space 128;c:")
}

// The heads say the same wherever they stand, and however often.
func TestP1003HeadsAnywhere(t *testing.T) {
	defs := []string{"def A 0;byte 8;", "def P 1;", "def Q 2;byte 6;", "list 1;def A 3;", "def B 4;byte 1;", "list 0;def B 5;", "list 1;part C;def P 6;"}
	for from := range len(defs) + 1 {
		for to := from; to <= len(defs); to++ {
			s := strings.Join(defs[:from], "") + "h: heads;byte 5;" + strings.Join(defs[from:to], "") + "byte 1 2 3;align;i: j: heads;" + strings.Join(defs[to:], "")
			for _, at := range []uint32{0, 4, 64, 1<<32 - 1<<12} {
				x, err := check(t, source(s), at)
				if err != api.OK {
					t.Fatalf("Build(%q): %d", s, err)
				}
				got := headsOf(x, at, "h")
				if got != headsOf(x, at, "i") {
					t.Fatalf("%q: %v isn't %v", s, got, headsOf(x, at, "i"))
				}
				var want [32]uint32
				for list, all := range []string{"APQB", "ABP"} { // in each list's order
					for _, name := range strings.Split(all, "") {
						want[16*list+names.Hash(name)], _ = x.At("^" + strconv.Itoa(list) + name)
					}
				}
				if got != want {
					t.Fatalf("%q at %#x: the heads are %v, not %v", s, at, got, want)
				}
			}
		}
	}
}

// By hand: A is in bucket 5, P in another one, and A and J have one bucket.
func TestP1003ChainByHand(t *testing.T) {
	same := bucketOf(names.Hash("A"), 2)
	s := "nop;def A 0;ret;def " + same[0] + " 0;list 1;def A 0;list 0;def " + same[1] + " 0;h: heads"
	for _, at := range []uint32{0, 64} {
		x, _ := check(t, source(s), at)
		a, _ := x.At("^0A")
		b, _ := x.At("^0" + same[0])
		c, _ := x.At("^0" + same[1])
		other, _ := x.At("^1A")
		link := func(header uint32) uint32 { return binary.LittleEndian.Uint32(x.Bytes[header-at:]) }
		if a != at+4 || link(a) != 0 || link(b) != a || link(c) != b || link(other) != 0 {
			t.Errorf("the links are %d, %d, %d and %d", link(a), link(b), link(c), link(other))
		}
		if h := headsOf(x, at, "h"); h[5] != c || h[16+5] != other {
			t.Errorf("the heads are %v", h)
		}
	}
}

// Many words of one bucket, in one list and in both.
func TestP1003ChainsOfOneBucket(t *testing.T) {
	for bucket := range names.Buckets {
		for n, name := range bucketOf(bucket, 12) {
			s := "x: heads;byte 9;"
			for k, other := range bucketOf(bucket, n+1) {
				s += "list " + strconv.Itoa(k*k/2%2) + ";def " + other + " " + strconv.Itoa(k) + ";" + strings.Repeat("byte 1;", k)
			}
			fits(t, s+"y: heads")
			fits(t, s+"part "+name+"a;list 0;part "+name+"b;y: heads")
			one := strings.ReplaceAll(s, "list 1", "list 0")
			fits(t, one+"y: heads")
			both := strings.ReplaceAll(s, "list 0", "list 1")
			fits(t, one+"y: heads;"+strings.TrimPrefix(both, "x: heads;")+"z: heads")
		}
	}
}

// Words of all buckets, by turns.
func TestP1003ChainsOfAllBuckets(t *testing.T) {
	for _, lists := range []int{1, 2, 3} {
		s := "h: heads;"
		for k := range 200 {
			s += "list " + strconv.Itoa(k%lists%2) + ";def n" + strconv.Itoa(k) + " " + strconv.Itoa(k%16) + ";" + strings.Repeat("byte 7;", k%5)
		}
		fits(t, s)
		fits(t, s+"i: heads")
	}
}

// drawer draws sources.
type drawer struct {
	draw func(int) int
	next int // so that no two labels are the same
}

func (d *drawer) one(of ...string) string { return of[d.draw(len(of))] }

// label returns a label that there isn't yet.
func (d *drawer) label() string {
	d.next++
	return "l" + strconv.Itoa(d.next) + ": "
}

// perhaps returns a label or none.
func (d *drawer) perhaps() string {
	return d.one("", "", d.label())
}

// name returns a name that is there once in most sources.
func (d *drawer) name() string {
	name := d.one("", "A", "+", "long-name-of-", "x:", "=", "^0", "@") + strconv.Itoa(d.draw(50000))
	return d.one(name, name, name, "\""+name+"\"")
}

// lines returns n right lines, those of structures not counted. Branches and their targets must not lie
// askew.
func (d *drawer) lines(n int) string {
	s := ""
	for range n {
		switch d.draw(9) {
		case 0, 1:
			s += d.perhaps() + "def " + d.name() + " " + d.one("0", "1", "0x0a", "15", "'\x03'", "7") + "\n"
		case 2:
			s += d.perhaps() + "part " + d.name() + "\n"
		case 3:
			s += d.perhaps() + "list " + d.one("0", "1") + "\n"
		case 4:
			s += d.perhaps() + "align\n" + d.label() + "heads\n"
		case 5:
			s += d.perhaps() + "byte " + d.one("1", "1 2", "1 2 3", "1 2 3 4 5") + "\n"
		case 6:
			s += "align\n" + d.perhaps() + "if t0 " + d.one("eq", "ltu") + " t1\n" + d.lines(n/3) + d.one("", "align\n"+d.perhaps()+"else\n"+d.lines(n/3)) + "align\n" + d.perhaps() + "then\n"
		case 7:
			s += "align\n" + d.perhaps() + "begin\n" + d.lines(n/3) + "align\n" + d.one("again\n", "until t0 ge t1\n", "while a0 ne a1\n"+d.lines(n/4)+"align\nrepeat\n")
		default:
			s += d.perhaps() + d.one("", "align\nnop", "align\nli t0 70000", "space 6", "text \"a b\"", "word 1 2 // x") + "\n"
		}
	}
	return s
}

func TestP1003DrawnSources(t *testing.T) {
	met := map[api.Errno]int{}
	words := 0
	for seed := range 2000 {
		d := drawer{draw: random(uint64(seed) + 1)}
		s := d.lines(3 + d.draw(14))
		for _, at := range []uint32{0, 4, 64, uint32(d.draw(1<<30)) * 4} {
			_, err := check(t, s, at)
			met[err]++
		}
		if l, _, err := lines.Parse(s); err == api.OK {
			words += len(wordsOf(l))
		}
	}
	if met[api.OK] < 6000 || words < 10000 {
		t.Errorf("few sources are right: %v, with %d words", met, words)
	}
}

// Drawn sources, in which some lines are wrong, missing or there twice.
func TestP1002DrawnSources(t *testing.T) {
	met := map[api.Errno]int{}
	for seed := range 4000 {
		d := drawer{draw: random(uint64(seed) + 1<<20)}
		l := strings.SplitAfter(d.lines(3+d.draw(8)), "\n")
		for range 1 + d.draw(2) {
			k := d.draw(len(l))
			wrong := d.one("", l[d.draw(len(l))], "head\n", "def\n", "def A 16\n", "def \"a b\" 1\n", "part \x7f\n", "part A B\n", "list 2\n", "list\n", "heads 1\n",
				"then\n", "begin\n", "if a b c\n", "@a: nop\n", "@: list 1\n", "nope\n", "j nowhere\n", "byte 1\nnop\n", "space 131070\n", "\"open\n", strings.Repeat("x", 257)+"\n", "l1: nop\n", "def A 0\n", "part A\n")
			l[k] = d.one(wrong, wrong+l[k])
		}
		_, err := check(t, strings.Join(l, ""), uint32(d.draw(40)/39+4*d.draw(99)))
		met[err]++
	}
	for _, err := range []api.Errno{api.OK, api.ErrLine, api.ErrName, api.ErrPair, api.ErrTwice, api.ErrSize, api.ErrFault} {
		if met[err] == 0 {
			t.Errorf("the error %d is not among those met: %v", err, met)
		}
	}
}
