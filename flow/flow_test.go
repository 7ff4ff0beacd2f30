package flow

import (
	"slices"
	"strconv"
	"strings"
	"testing"

	"swage/api"
	"swage/lines"
)

func line(word string, args ...string) lines.Line {
	return lines.Line{Word: word, Args: args}
}

// noConditions returns texts that are no conditions.
func noConditions() []string {
	return []string{"", " ", "EQ", "Eq", "LTU", " eq", "eq ", "eq\t", "e q", "e", "q", "lt u", "beq", "bne", "blt", "bgeu", "gt", "le", "gtu", "leu",
		"gtz", "eqz", "l", "g", "geuu", "eqne", "\"eq\"", "@0", "0", "t0", "if", "eq\n", "eq\x00"}
}

func TestP802Opposite(t *testing.T) {
	for cond, want := range opposites {
		if got, ok := Opposite(cond); got != want || !ok {
			t.Errorf("Opposite(%q) = %q, %v; not %q", cond, got, ok, want)
		}
		if back, ok := Opposite(want); back != cond || !ok {
			t.Errorf("Opposite(%q) = %q, %v; not %q", want, back, ok, cond)
		}
	}
	for _, cond := range noConditions() {
		if got, ok := Opposite(cond); got != "" || ok {
			t.Errorf("Opposite(%q) = %q, %v", cond, got, ok)
		}
	}
}

// All texts of up to three bytes that look like conditions.
func TestP802OppositeOfShortTexts(t *testing.T) {
	texts := []string{""}
	for from := 0; len(texts[from]) < 3; from++ {
		for b := byte('a' - 1); b <= 'z'; b++ {
			texts = append(texts, texts[from]+string(b))
		}
	}
	for _, s := range texts {
		if got, ok := Opposite(s); got != opposites[s] || ok != (got != "") {
			t.Fatalf("Opposite(%q) = %q, %v", s, got, ok)
		}
	}
}

func TestP802Examples(t *testing.T) {
	becomes(t, "a: if t0 lt t1;nop;else;ret;then", "a: bge t0 t1 @0;nop;j @1;@0:;ret;@1:")
	becomes(t, "if t0 eq t1;nop;then", "bne t0 t1 @0;nop;@0:")
	fails(t, parse("then"), 1, api.ErrPair)
}

func TestP802EachStructure(t *testing.T) {
	for source, want := range map[string]string{
		"":                                 "",
		"if a eq b;then":                   "bne a b @0;@0:",
		"if a eq b;x;then;y":               "bne a b @0;x;@0:;y",
		"if a eq b;else;then":              "bne a b @0;j @1;@0:;@1:",
		"w;if a eq b;x;else;y;then;z":      "w;bne a b @0;x;j @1;@0:;y;@1:;z",
		"begin;again":                      "@0:;j @0",
		"w;begin;x;again;y":                "w;@0:;x;j @0;y",
		"begin;until a eq b":               "@0:;bne a b @0",
		"begin;x;until a eq b;y":           "@0:;x;bne a b @0;y",
		"begin;while a eq b;repeat":        "@0:;bne a b @1;j @0;@1:",
		"w;begin;x;while a eq b;y;repeat;": "w;@0:;x;bne a b @1;y;j @0;@1:",
	} {
		becomes(t, source, want)
	}
}

func TestP802EachCondition(t *testing.T) {
	for cond, want := range opposites {
		becomes(t, "if t0 "+cond+" t1;then", "b"+want+" t0 t1 @0;@0:")
		becomes(t, "begin;until t0 "+cond+" t1", "@0:;b"+want+" t0 t1 @0")
		becomes(t, "begin;while t0 "+cond+" t1;repeat", "@0:;b"+want+" t0 t1 @1;j @0;@1:")
	}
}

// before returns lines after which a flow word may come.
func before(word string) []lines.Line {
	switch word {
	case "else", "then":
		return parse("if x eq y")
	case "while", "until", "again":
		return parse("begin")
	case "repeat":
		return parse("begin;while x eq y")
	}
	return nil
}

func TestP802WrongConditions(t *testing.T) {
	for _, cond := range noConditions() {
		for _, word := range []string{"if", "while", "until"} {
			l := before(word)
			fails(t, append(l, line(word, "t0", cond, "t1")), len(l)+1, api.ErrLine)
			fails(t, append(l, line(word, "eq", cond, "eq")), len(l)+1, api.ErrLine)
		}
	}
	for _, word := range []string{"if", "while", "until"} {
		l := before(word)
		fails(t, append(l, line(word, "eq", "t0", "t1")), len(l)+1, api.ErrLine)
		fails(t, append(l, line(word, "t0", "t1", "eq")), len(l)+1, api.ErrLine)
	}
}

// Each flow word with none to six Args, of which the second is a condition and of which all are.
func TestP802CountOfArgs(t *testing.T) {
	for word, right := range flowArgs {
		l := before(word)
		for n := range 7 {
			for _, args := range [][]string{{"a", "ne", "b", "c", "d", "e"}, slices.Repeat([]string{"eq"}, 6), slices.Repeat([]string{"ne", ""}, 3), slices.Repeat([]string{""}, 6)} {
				x := line(word, args[:n]...)
				if n != right || n == 3 && opposites[args[1]] == "" {
					fails(t, append(l, x), len(l)+1, api.ErrLine)
					continue
				}
				if _, line, err := check(t, append(l, x)); err == api.ErrLine || line == len(l)+1 && err != api.ErrPair {
					t.Errorf("%q: %d, %d", x, line, err)
				}
			}
		}
	}
}

func TestP802AnyOperands(t *testing.T) {
	texts := []string{"", " ", "t0", "x99", "5", "eq", "if", "then", "@0", "a:", "\"", "\"a b\"", "//", "a\nb", "\x00", "\xff\xfe", strings.Repeat("a", 1000)}
	for _, a := range texts {
		for _, b := range texts {
			got, _, err := check(t, []lines.Line{line("if", a, "lt", b), line("begin"), line("while", b, "ltu", a), line("repeat"), line("begin"), line("until", a, "ge", b), line("then")})
			want := []lines.Line{line("bge", a, b, "@0"), {Labels: []string{"@1"}}, line("bgeu", b, a, "@2"), line("j", "@1"), {Labels: []string{"@2"}},
				{Labels: []string{"@3"}}, line("blt", a, b, "@3"), {Labels: []string{"@0"}}}
			if err != api.OK || !sameLines(got, want) {
				t.Fatalf("operands %q and %q: %s, %d", a, b, short(got), err)
			}
		}
	}
}

// What each continuing and each closing word does where this and that is open.
func TestP802Pairs(t *testing.T) {
	for open, due := range map[string]string{
		"":                                 "",
		"if a eq b":                        "else then",
		"if a eq b;else":                   "then",
		"begin":                            "while until again",
		"begin;while a eq b":               "repeat",
		"begin;if a eq b":                  "else then",
		"begin;if a eq b;else":             "then",
		"if a eq b;begin":                  "while until again",
		"if a eq b;begin;while a eq b":     "repeat",
		"if a eq b;if a eq b;else":         "then",
		"if a eq b;else;if a eq b":         "else then",
		"begin;begin;while a eq b":         "repeat",
		"begin;while a eq b;begin":         "while until again",
		"if a eq b;then":                   "",
		"if a eq b;else;then":              "",
		"begin;again":                      "",
		"begin;until a eq b":               "",
		"begin;while a eq b;repeat":        "",
		"if a eq b;if a eq b;then":         "else then",
		"if a eq b;else;if a eq b;then":    "then",
		"begin;begin;again":                "while until again",
		"begin;while a eq b;begin;again":   "repeat",
		"begin;if a eq b;then":             "while until again",
		"if a eq b;begin;until a eq b":     "else then",
		"begin;while a eq b;if a eq b":     "else then",
		"if a eq b;else;begin":             "while until again",
		"if a eq b;else;begin;again":       "then",
		"begin;begin;while a eq b;repeat;": "while until again",
	} {
		for _, word := range []string{"else", "then", "while", "until", "repeat", "again"} {
			x := line(word)
			if flowArgs[word] == 3 {
				x = line(word, "a", "eq", "b")
			}
			l := append(parse(open), x)
			if !slices.Contains(strings.Fields(due), word) {
				fails(t, l, len(l), api.ErrPair)
				fails(t, append(l, parse("nop;then;@0:")...), len(l), api.ErrPair)
				continue
			}
			if _, n, _ := check(t, l); n == len(l) {
				t.Errorf("%s: %s is refused", open, word)
			}
		}
	}
}

// After a halving word there may be no second one, and a loop with a while has no other end than repeat.
func TestP802PairsByHand(t *testing.T) {
	fails(t, parse("if a eq b;else;else;then"), 3, api.ErrPair)
	fails(t, parse("begin;while a eq b;while a eq b;repeat"), 3, api.ErrPair)
	fails(t, parse("begin;while a eq b;until a eq b"), 3, api.ErrPair)
	fails(t, parse("begin;while a eq b;again"), 3, api.ErrPair)
	fails(t, parse("begin;repeat"), 2, api.ErrPair)
	fails(t, parse("begin;if a eq b;again;then"), 3, api.ErrPair)
	fails(t, parse("if a eq b;begin;then;again"), 3, api.ErrPair)
	fails(t, parse("begin;then"), 2, api.ErrPair)
	fails(t, parse("if a eq b;again"), 2, api.ErrPair)
	fails(t, parse("nop;if a eq b;then;then;nop"), 4, api.ErrPair)
}

func TestP802OpenAtTheEnd(t *testing.T) {
	for _, s := range []string{
		"if a eq b", "if a eq b;else", "begin", "begin;while a eq b", "if a eq b;nop;nop", "nop;begin;nop",
		"if a eq b;begin", "begin;if a eq b;else;begin;while a eq b", "begin;begin;again", "if a eq b;if a eq b;then", "begin;while a eq b;if a eq b;then;begin;until a eq b",
		"if a eq b;else;if a eq b;else;then;nop",
	} {
		fails(t, parse(s), len(parse(s))+1, api.ErrPair)
	}
	for n := 1; n < 40; n++ {
		fails(t, slices.Repeat(parse("begin"), n), n+1, api.ErrPair)
		fails(t, slices.Repeat(parse("if a eq b"), n), n+1, api.ErrPair)
		fails(t, slices.Repeat(parse("if a eq b;begin;x:"), n), 3*n+1, api.ErrPair)
	}
}

// The first line of a replacement has the line's labels, before a generated one.
func TestP802Labels(t *testing.T) {
	for _, labels := range []string{"p:", "p: q:", "p: q: r: p: a@:"} {
		for source, want := range map[string]string{
			"L if a eq b;then":                   "L bne a b @0;@0:",
			"if a eq b;L then":                   "bne a b @0;L @0:",
			"if a eq b;L else;then":              "bne a b @0;L j @1;@0:;@1:",
			"if a eq b;else;L then":              "bne a b @0;j @1;@0:;L @1:",
			"L begin;again":                      "L @0:;j @0",
			"begin;L again":                      "@0:;L j @0",
			"begin;L until a eq b":               "@0:;L bne a b @0",
			"begin;L while a eq b;repeat":        "@0:;L bne a b @1;j @0;@1:",
			"begin;while a eq b;L repeat":        "@0:;bne a b @1;L j @0;@1:",
			"L nop;L;begin;L;L nop x;again;L w;": "L nop;L;@0:;L;L nop x;j @0;L w",
		} {
			becomes(t, strings.ReplaceAll(source, "L", labels), strings.ReplaceAll(want, "L", labels))
		}
	}
	// Labels may be any texts that don't begin with @.
	any := []string{"", " @", "if", "a b", "\"", "0", "a@0", "\x00", "then", ":@"}
	for _, x := range []lines.Line{line("begin"), line("nop"), line("")} {
		x.Labels = any
		got, _, err := check(t, []lines.Line{line("begin"), line("again"), x, line("begin"), line("again"), line("again")}[:3+3*flowCount(x)])
		if err != api.OK || !slices.Equal(got[2].Labels[:len(any)], any) {
			t.Errorf("%q: %s, %d", x, short(got), err)
		}
	}
}

// flowCount is 1 for a flow word and 0 for any other.
func flowCount(x lines.Line) int {
	if _, ok := flowArgs[x.Word]; ok {
		return 1
	}
	return 0
}

func TestP802LabelsThatBeginWithTheMark(t *testing.T) {
	for _, label := range []string{"@", "@0", "@1", "@a", "@@", "@ ", "@\x00"} {
		for word := range flowArgs {
			l := before(word)
			for _, labels := range [][]string{{label}, {label, "a"}, {"a", label}, {"a", "b", label, "c"}} {
				for _, args := range [][]string{nil, {"a"}, {"a", "eq", "b"}, {"a", "b", "c"}} {
					x := lines.Line{Labels: labels, Word: word, Args: args}
					fails(t, append(l, x), len(l)+1, api.ErrName)
					fails(t, []lines.Line{x}, 1, api.ErrName)
				}
			}
		}
		for _, word := range []string{"", "nop", "IF", "@0"} {
			x := lines.Line{Labels: []string{"a", label}, Word: word}
			fails(t, []lines.Line{x}, 1, api.ErrName)
			fails(t, append(parse("nop;begin;nop;again"), x), 5, api.ErrName)
		}
	}
	becomes(t, "a@: b@0: nop @0 @;begin;c@1: again", "a@: b@0: nop @0 @;@0:;c@1: j @0")
}

// One wrong line at each place, alone and with another one behind it.
func TestP802ErrorsAtEachPlace(t *testing.T) {
	right := parse("nop;if a eq b;begin;while c lt d;if e ge f;else;then;repeat;else;begin;until g ltu h;then;ret")
	check(t, right)
	wrong := []lines.Line{
		{Labels: []string{"@5"}}, {Labels: []string{"@"}, Word: "if"}, {Labels: []string{"@"}, Word: "else"}, line("if"), line("until", "a", "b", "c"), line("begin", "x"),
		line("else"), line("then"), line("again"), line("repeat"), line("begin"), line("if", "a", "eq", "b"), line("until", "a", "eq", "b"), line("while", "a", "eq", "b"), line("nop"),
	}
	first := map[api.Errno]int{}
	for _, w := range wrong {
		for from := range right {
			for _, v := range wrong {
				for to := from + 1; to < len(right); to++ {
					l := slices.Clone(right)
					l[from], l[to] = w, v
					_, _, err := check(t, l)
					first[err]++
					check(t, l[:to])
				}
			}
			l := slices.Clone(right)
			l[from] = w
			check(t, l)
			check(t, slices.Insert(slices.Clone(right), from, w))
			check(t, slices.Delete(slices.Clone(right), from, from+1))
		}
	}
	for _, err := range []api.Errno{api.OK, api.ErrName, api.ErrLine, api.ErrPair} {
		if first[err] == 0 {
			t.Errorf("the error %d is not among those tried", err)
		}
	}
}

// Where two errors apply, the line's label comes first, then its Args, then what is open; an
// earlier line's error comes before a later one's.
func TestP802WhichErrorComesFirst(t *testing.T) {
	for source, want := range map[string]struct {
		line int
		err  api.Errno
	}{
		"@a: if":                      {1, api.ErrName},
		"@a: then":                    {1, api.ErrName},
		"@a: then 5":                  {1, api.ErrName},
		"then 5":                      {1, api.ErrLine},
		"until a b c":                 {1, api.ErrLine},
		"while":                       {1, api.ErrLine},
		"nop;again x":                 {2, api.ErrLine},
		"then;@a:":                    {1, api.ErrPair},
		"then;if":                     {1, api.ErrPair},
		"if;@a:":                      {1, api.ErrLine},
		"if;then":                     {1, api.ErrLine},
		"@a:;then;if":                 {1, api.ErrName},
		"begin;@a:":                   {2, api.ErrName},
		"begin;nop;then;nop":          {3, api.ErrPair},
		"begin;nop;nop;if":            {4, api.ErrLine},
		"nop;nop;nop;then":            {4, api.ErrPair},
		"nop;nop;nop;@a: nop":         {4, api.ErrName},
		"begin;if a eq b;else;nop":    {5, api.ErrPair},
		"if a eq b;then;begin;@: nop": {4, api.ErrName},
	} {
		fails(t, parse(source), want.line, want.err)
	}
}

func TestP802NumbersOfLabels(t *testing.T) {
	becomes(t, "if a eq b;then;if a eq b;then;begin;again;if a eq b;else;then;begin;while a eq b;repeat;begin;until a eq b",
		"bne a b @0;@0:;bne a b @1;@1:;@2:;j @2;bne a b @3;j @4;@3:;@4:;@5:;bne a b @6;j @5;@6:;@7:;bne a b @7")
	becomes(t, "if a eq b;if c lt d;if e ge f;then;else;then;else;then", "bne a b @0;bge c d @1;blt e f @2;@2:;j @3;@1:;@3:;j @4;@0:;@4:")
	becomes(t, "begin;begin;while a eq b;begin;until c ltu d;repeat;while e geu f;repeat", "@0:;@1:;bne a b @2;@3:;bgeu c d @3;j @1;@2:;bltu e f @4;j @0;@4:")
	becomes(t, "begin;if a eq b;begin;while c ne d;if e lt f;else;then;repeat;else;begin;again;then;again",
		"@0:;bne a b @1;@2:;beq c d @3;bge e f @4;j @5;@4:;@5:;j @2;@3:;j @6;@1:;@7:;j @7;@6:;j @0")
	for _, n := range []int{1, 9, 10, 11, 99, 100, 101, 1001} {
		side := replaced(t, slices.Repeat(parse("begin;again"), n))
		nest := replaced(t, append(slices.Repeat(parse("begin"), n), slices.Repeat(parse("again"), n)...))
		last := "@" + strconv.Itoa(n-1)
		if side[2*n-2].Labels[0] != last || side[2*n-1].Args[0] != last || nest[n-1].Labels[0] != last || nest[n].Args[0] != last || nest[2*n-1].Args[0] != "@0" {
			t.Errorf("of %d loops, the last one's label is not %s: %s", n, last, short(side))
		}
	}
}

// replaced holds Plain of right lines against the model, and returns its lines.
func replaced(t *testing.T, l []lines.Line) []lines.Line {
	t.Helper()
	got, _, err := check(t, l)
	if err != api.OK {
		t.Fatalf("Plain(%s): %d", short(l), err)
	}
	return got
}

// All sequences of up to six of the flow words with right Args.
func TestP802AllShortSequences(t *testing.T) {
	words := []lines.Line{line("if", "a", "eq", "b"), line("else"), line("then"), line("begin"), line("while", "a", "lt", "b"), line("repeat"), line("until", "a", "geu", "b"), line("again")}
	var grow func(l []lines.Line)
	grow = func(l []lines.Line) {
		check(t, l)
		if len(l) == 6 {
			return
		}
		for _, x := range words {
			grow(append(l, x))
		}
	}
	grow(make([]lines.Line, 0, 6))
}

func TestP803LinesWithoutFlowWords(t *testing.T) {
	few := [][]string{nil, {""}, {"t0"}, {"a", "eq", "b"}, {"if", "then", "@0"}, {"", " ", "\"", "a\nb"}}
	words := []string{"", "nop", "IF", "If", " if", "if ", "fi", "i", "iff", "els", "elses", "Then", "begins", "repeats", "agai", "whil", "untill", "\"if\"", "if:", "@0", "beq", "j", "//", "\x00", "endif", "loop"}
	var all []lines.Line
	for _, word := range words {
		for _, args := range few {
			for _, labels := range [][]string{nil, {""}, {"a"}, {"a", "if", "b@"}} {
				x := lines.Line{Labels: labels, Word: word, Args: args}
				if got := replaced(t, []lines.Line{x}); len(got) != 1 || !sameLine(got[0], x) {
					t.Fatalf("Plain(%q) = %q", x, got)
				}
				all = append(all, x)
			}
		}
	}
	if got := replaced(t, all); !sameLines(got, all) {
		t.Error("lines without flow words come back changed")
	}
	inside := slices.Concat(parse("begin"), all, parse("while a eq b"), all, parse("repeat"))
	got := replaced(t, inside)
	if n := len(all); !sameLines(got[1:1+n], all) || !sameLines(got[2+n:2+2*n], all) {
		t.Error("lines within a loop come back changed")
	}
}

func TestP803NoLines(t *testing.T) {
	for _, l := range [][]lines.Line{nil, {}} {
		if got, n, err := Plain(l); len(got) != 0 || n != 0 || err != api.OK {
			t.Errorf("Plain of no lines = %q, %d, %d", got, n, err)
		}
	}
}

// anyLines returns lines of right structures, nested at most depth deep.
func anyLines(r func(int) int, depth int) (l []lines.Line) {
	conditions := []string{"eq", "ne", "lt", "ge", "ltu", "geu"}
	put := func(word string) {
		x := line(word)
		if flowArgs[word] == 3 {
			x.Args = []string{"a" + strconv.Itoa(r(9)), conditions[r(6)], "b" + strconv.Itoa(r(9))}
		}
		for range max(0, r(5)-2) {
			x.Labels = append(x.Labels, "l"+strconv.Itoa(r(99)))
		}
		l = append(l, x)
	}
	inner := func() { l = append(l, anyLines(r, depth-1)...) }
	for range r(4) {
		kind := r(6)
		if depth == 0 {
			kind = 5
		}
		switch kind {
		case 0, 1:
			put("if")
			inner()
			if kind == 1 {
				put("else")
				inner()
			}
			put("then")
		case 2, 3, 4:
			put("begin")
			inner()
			if kind == 4 {
				put("while")
				inner()
			}
			put([]string{"again", "until", "repeat"}[kind-2])
		default:
			put([]string{"nop", "", "ret", "addi"}[r(4)])
		}
	}
	return l
}

func TestP803NoFlowWordIsLeft(t *testing.T) {
	r := random(803)
	for range 2000 {
		for _, x := range replaced(t, anyLines(r, 6)) {
			if flowCount(x) != 0 {
				t.Fatalf("the result has the line %q", x)
			}
		}
	}
}

// Right programs of which a line is left out, doubled, moved or made another.
func TestP802AnyLines(t *testing.T) {
	r := random(802)
	seen := map[api.Errno]int{}
	for range 8000 {
		l := anyLines(r, 4)
		if len(l) > 0 {
			a, b := r(len(l)), r(len(l))
			switch r(6) {
			case 0:
				l = slices.Delete(l, a, a+1)
			case 1:
				l = slices.Insert(l, a, l[b])
			case 2:
				l[a], l[b] = l[b], l[a]
			case 3:
				l[a].Args = append(l[a].Args, "eq")
			case 4:
				l[a].Labels = append(l[a].Labels, "@"+strconv.Itoa(r(3)))
			}
		}
		_, _, err := check(t, l)
		seen[err]++
	}
	if len(seen) != 4 {
		t.Errorf("not all errors are among those tried: %v", seen)
	}
}

// renumbered returns lines with their generated labels numbered anew, in the order in which the
// labels are first met.
func renumbered(l []lines.Line) []lines.Line {
	numbers := map[string]string{}
	again := func(texts []string) (all []string) {
		for _, s := range texts {
			if strings.HasPrefix(s, "@") {
				if _, known := numbers[s]; !known {
					numbers[s] = "@" + strconv.Itoa(len(numbers))
				}
				s = numbers[s]
			}
			all = append(all, s)
		}
		return all
	}
	var out []lines.Line
	for _, x := range l {
		out = append(out, lines.Line{Labels: again(x.Labels), Word: x.Word, Args: again(x.Args)})
	}
	return out
}

// frames returns structures with a place # within them, and where that place is in the result.
func frames() map[string]int {
	return map[string]int{
		"begin;#;again": 1, "begin;#;until a eq b": 1, "begin;#;while a eq b;repeat": 1, "begin;while a eq b;#;repeat": 2,
		"if a eq b;#;then": 1, "if a eq b;#;else;then": 1, "if a eq b;else;#;then": 3,
		"if a eq b;begin;while a eq b;#;repeat;else;then": 3, "begin;if a eq b;then;if a eq b;else;begin;#;until a eq b;then;again": 7,
	}
}

// framed returns lines put in the place of a frame.
func framed(frame string, inner []lines.Line) (l []lines.Line) {
	for _, x := range parse(frame) {
		if x.Word == "#" {
			l = append(l, inner...)
			continue
		}
		l = append(l, x)
	}
	return l
}

// What stands within a structure is replaced as it is on its own, whatever the numbers of its labels.
func TestP804WhatStandsWithin(t *testing.T) {
	r := random(804)
	for frame, at := range frames() {
		outer := replaced(t, framed(frame, nil))
		for range 300 {
			inner := anyLines(r, 4)
			alone := replaced(t, inner)
			within := replaced(t, framed(frame, inner))
			if len(within) != len(outer)+len(alone) || !sameLines(renumbered(within[at:at+len(alone)]), renumbered(alone)) {
				t.Fatalf("within %s: %s; alone: %s", frame, short(within), short(alone))
			}
			around := slices.Delete(slices.Clone(within), at, at+len(alone))
			if !sameLines(renumbered(around), renumbered(outer)) {
				t.Fatalf("around %s: %s; not %s", short(inner), short(around), short(outer))
			}
		}
	}
}

// A piece of lines before or behind another changes nothing in it but its labels' numbers.
func TestP804Neighbours(t *testing.T) {
	r := random(8040)
	for range 2000 {
		a, b := anyLines(r, 3), anyLines(r, 3)
		first, second := replaced(t, a), replaced(t, b)
		both := replaced(t, slices.Concat(a, b))
		if !sameLines(both[:len(first)], first) || !sameLines(renumbered(both[len(first):]), renumbered(second)) {
			t.Fatalf("%s before %s: %s", short(a), short(b), short(both))
		}
	}
}

// What is wrong on its own is wrong within a structure too, in the same line of it, but for words that
// belong to the structure itself.
func TestP804ErrorsWithin(t *testing.T) {
	for _, s := range []string{"if", "nop;@a: nop", "nop;begin x;again", "begin;nop;then", "if a eq b;begin;else", "begin;while a eq b;begin;until a EQ b"} {
		_, at, err := check(t, parse(s))
		for frame := range frames() {
			ahead := len(parse(strings.Split(frame, "#")[0]))
			fails(t, framed(frame, parse(s)), ahead+at, err)
		}
	}
}

// Each kind within each, to some depth.
func TestP804EachKindWithinEach(t *testing.T) {
	var kinds []string
	for frame := range frames() {
		kinds = append(kinds, frame)
	}
	slices.Sort(kinds)
	for _, a := range kinds {
		for _, b := range kinds {
			for _, c := range kinds {
				l := framed(a, framed(b, framed(c, parse("nop"))))
				got := replaced(t, l)
				for _, x := range got {
					if flowCount(x) != 0 {
						t.Fatalf("%s has the line %q", short(l), x)
					}
				}
			}
		}
	}
}

func TestP804Deep(t *testing.T) {
	for _, n := range []int{2, 10, 5000} {
		for frame := range frames() {
			parts := strings.SplitN(frame, ";#;", 2)
			l := slices.Concat(slices.Repeat(parse(parts[0]), n), parse("nop"), slices.Repeat(parse(parts[1]), n))
			replaced(t, l)
			fails(t, l[:len(l)-1], len(l), api.ErrPair)
		}
	}
}
