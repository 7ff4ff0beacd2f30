package flow

import (
	"reflect"
	"slices"
	"strings"
	"testing"
	"unsafe"

	"swage/api"
	"swage/lines"
)

// overlaps reports whether two texts share bytes.
func overlaps(a, b string) bool {
	from, other := uintptr(unsafe.Pointer(unsafe.StringData(a))), uintptr(unsafe.Pointer(unsafe.StringData(b)))
	return a != "" && b != "" && from < other+uintptr(len(b)) && other < from+uintptr(len(a))
}

// texts returns all labels and Args of lines, and the words of those that are no jumps.
func texts(l []lines.Line) (all []string) {
	for _, x := range l {
		all = append(append(all, x.Labels...), x.Args...)
		if x.Word != "j" {
			all = append(all, x.Word)
		}
	}
	return all
}

const everything = "p: q: if aa eq bb;r: nop cc dd;p: s: else;begin;t: u: while aa lt bb;v:;w: x: repeat;y: then;z: begin;text \"a b\";a: until cc ltu dd;b: begin;c: d: again;e: f:"

func TestP801ResultsShareNoTexts(t *testing.T) {
	l := parse(everything)
	a, _, _ := Plain(l)
	b, _, _ := Plain(l)
	mine := texts(a)
	for k, s := range mine {
		for _, other := range slices.Concat(texts(l), texts(b), mine[:k]) {
			if overlaps(s, other) {
				t.Errorf("%q shares memory with %q", s, other)
			}
		}
	}
}

// spoil writes to all of a list, its unused capacity too.
func spoil(l []string) {
	for k := range l[:cap(l)] {
		l[:cap(l)][k] = "spoilt"
	}
}

// What is written to one list of a result is seen nowhere else.
func TestP801ResultsShareNoLists(t *testing.T) {
	l := parse(everything)
	want, _, _ := modelPlain(parse(everything))
	untouched, _, _ := Plain(l)
	for k := range want {
		for _, labels := range []bool{true, false} {
			got, _, _ := Plain(l)
			if labels {
				spoil(got[k].Labels)
				got[k].Labels = want[k].Labels
			} else {
				spoil(got[k].Args)
				got[k].Args = want[k].Args
			}
			if !sameLines(got, want) {
				t.Errorf("the lists of line %d share memory with others: %s", k+1, short(got))
			}
		}
	}
	got, _, _ := Plain(l)
	for k := range got[:cap(got)] {
		got[:cap(got)][k] = line("spoilt")
	}
	if !sameLines(untouched, want) || !reflect.DeepEqual(l, parse(everything)) {
		t.Error("what is written to a result is seen elsewhere")
	}
}

// Neither the lines nor what stands behind their length is changed.
func TestP801ArgumentsAreUnchanged(t *testing.T) {
	sources := []string{everything, everything + ";then", everything + ";begin", "if a eq b;then;" + everything, "begin;while a eq b;@: nop;repeat", "if a EQ b", ""}
	fresh := func(s string) []lines.Line {
		l := parse(s)
		for k := range l {
			labels, args := append(slices.Clone(l[k].Labels), "behind", "it"), append(slices.Clone(l[k].Args), "behind", "it")
			l[k].Labels, l[k].Args = labels[:len(l[k].Labels)], args[:len(l[k].Args)]
		}
		return append(l, line("behind"), line("it"))[:len(l)]
	}
	whole := func(l []lines.Line) (all []lines.Line) {
		for _, x := range l[:len(l)+2] {
			if x.Word != "behind" && x.Word != "it" {
				x.Labels, x.Args = x.Labels[:len(x.Labels)+2], x.Args[:len(x.Args)+2]
			}
			all = append(all, x)
		}
		return all
	}
	for _, s := range sources {
		l := fresh(s)
		Plain(l)
		if !reflect.DeepEqual(whole(l), whole(fresh(s))) {
			t.Errorf("Plain changed its argument: %s", short(whole(l)))
		}
	}
}

// A result says the same whatever is done to the lines afterwards.
func TestP801ArgumentsAreNotKept(t *testing.T) {
	l := parse(everything)
	got, _, _ := Plain(l)
	want, _, _ := modelPlain(parse(everything))
	for k := range l {
		spoil(l[k].Labels)
		spoil(l[k].Args)
		l[k].Word = "spoilt"
	}
	if !sameLines(got, want) {
		t.Errorf("the result has changed with the lines: %s", short(got))
	}
}

func TestP801Pure(t *testing.T) {
	sources := []string{everything, "", "then", everything + ";begin;begin", "begin;@: again", "if a b c", everything}
	for range 3 {
		for _, s := range sources {
			check(t, parse(s))
		}
		for cond, want := range opposites {
			if got, ok := Opposite(cond); got != want || !ok {
				t.Errorf("Opposite(%q) = %q, %v", cond, got, ok)
			}
		}
	}
}

// Beside an error there are no lines, whatever was replaced before it.
func TestP801ZeroBesideErrors(t *testing.T) {
	for s, want := range map[string]api.Errno{"@:": api.ErrName, "if": api.ErrLine, "then": api.ErrPair, "begin": api.ErrPair} {
		for _, ahead := range []string{"", "nop;", everything + ";"} {
			if got, n, err := Plain(parse(ahead + s)); len(got) != 0 || n < 1 || err != want {
				t.Errorf("Plain(%s%s) = %s, %d, %d", ahead, s, short(got), n, err)
			}
		}
	}
}

// nil and empty lists are the same, and huge ones are answered too.
func TestP801Ends(t *testing.T) {
	for _, x := range []lines.Line{{}, {Labels: []string{}, Args: []string{}}, {Word: "begin", Args: []string{}}, {Labels: []string{}, Word: "if", Args: []string{}}} {
		check(t, []lines.Line{x})
		check(t, []lines.Line{x, {Word: "again", Args: []string{}, Labels: []string{}}})
	}
	const n = 1 << 17
	long := strings.Repeat("a", n)
	check(t, []lines.Line{{Labels: slices.Repeat([]string{"a"}, n), Word: "begin"}, {Word: long}, {Word: "until", Args: []string{long, "eq", long}}})
	check(t, []lines.Line{{Labels: append(slices.Repeat([]string{"a"}, n), "@"), Word: "nop"}})
	check(t, []lines.Line{{Word: "if", Args: slices.Repeat([]string{"eq"}, n)}})
	check(t, slices.Repeat(parse("if a eq b;else;then;nop"), n/4))
	check(t, slices.Repeat(parse("then"), n))
	if got, ok := Opposite(long); got != "" || ok {
		t.Errorf("Opposite of a long text: %q, %v", got, ok)
	}
}
