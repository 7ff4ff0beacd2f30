package flow

import (
	"slices"
	"strconv"
	"strings"
	"testing"

	"swage/api"
	"swage/lines"
)

// A test's name begins with the number of the promise that it holds.

// opposites is the document's list of conditions.
var opposites = map[string]string{"eq": "ne", "ne": "eq", "lt": "ge", "ge": "lt", "ltu": "geu", "geu": "ltu"}

// flowArgs says how many Args each flow word has.
var flowArgs = map[string]int{"if": 3, "while": 3, "until": 3, "else": 0, "then": 0, "begin": 0, "repeat": 0, "again": 0}

// model replaces by descent: each structure's lines are read by a call of its own, where the
// program has a list of what is open.
type model struct {
	l      []lines.Line
	at     int // lines read
	labels int
	out    []lines.Line
	err    api.Errno
}

func modelPlain(l []lines.Line) ([]lines.Line, int, api.Errno) {
	m := model{l: l}
	m.block()
	if m.err != api.OK {
		return nil, m.at, m.err
	}
	return m.out, 0, api.OK
}

func (m *model) fail(err api.Errno) lines.Line {
	m.err = err
	return lines.Line{}
}

// block replaces lines up to the first flow word among the stops, and returns that word's line. With
// no stops, it goes on to the end of all lines.
func (m *model) block(stops ...string) lines.Line {
	for {
		m.at++
		if m.at > len(m.l) {
			if len(stops) > 0 {
				return m.fail(api.ErrPair)
			}
			return lines.Line{}
		}
		x := m.l[m.at-1]
		if err := modelError(x); err != api.OK {
			return m.fail(err)
		}
		switch _, isFlow := flowArgs[x.Word]; {
		case !isFlow:
			m.out = append(m.out, x)
		case x.Word == "if":
			m.choice(x)
		case x.Word == "begin":
			m.loop(x)
		case slices.Contains(stops, x.Word):
			return x
		default:
			return m.fail(api.ErrPair)
		}
		if m.err != api.OK {
			return lines.Line{}
		}
	}
}

// modelError says what error a line has, whatever is open.
func modelError(x lines.Line) api.Errno {
	for _, label := range x.Labels {
		if label != "" && label[0] == '@' {
			return api.ErrName
		}
	}
	n, isFlow := flowArgs[x.Word]
	if isFlow && (len(x.Args) != n || n == 3 && opposites[x.Args[1]] == "") {
		return api.ErrLine
	}
	return api.OK
}

func (m *model) label() string {
	m.labels++
	return "@" + strconv.Itoa(m.labels-1)
}

func (m *model) put(labels []string, word string, args ...string) {
	m.out = append(m.out, lines.Line{Labels: labels, Word: word, Args: args})
}

func (m *model) branch(x lines.Line, to string) {
	m.put(x.Labels, "b"+opposites[x.Args[1]], x.Args[0], x.Args[2], to)
}

func (m *model) choice(x lines.Line) {
	k := m.label()
	m.branch(x, k)
	end := m.block("else", "then")
	if m.err == api.OK && end.Word == "else" {
		before := k
		k = m.label()
		m.put(end.Labels, "j", k)
		m.put([]string{before}, "")
		end = m.block("then")
	}
	if m.err == api.OK {
		m.put(slices.Concat(end.Labels, []string{k}), "")
	}
}

func (m *model) loop(x lines.Line) {
	k := m.label()
	m.put(slices.Concat(x.Labels, []string{k}), "")
	end := m.block("again", "until", "while")
	if m.err != api.OK {
		return
	}
	switch end.Word {
	case "again":
		m.put(end.Labels, "j", k)
	case "until":
		m.branch(end, k)
	case "while":
		out := m.label()
		m.branch(end, out)
		end = m.block("repeat")
		if m.err == api.OK {
			m.put(end.Labels, "j", k)
			m.put([]string{out}, "")
		}
	}
}

func sameLine(a, b lines.Line) bool {
	return a.Word == b.Word && slices.Equal(a.Labels, b.Labels) && slices.Equal(a.Args, b.Args)
}

func sameLines(a, b []lines.Line) bool { return slices.EqualFunc(a, b, sameLine) }

// short tells lines in the source's form, no more than a screen of them.
func short(l []lines.Line) string {
	s := strconv.Itoa(len(l)) + " lines:"
	for _, x := range l[:min(len(l), 40)] {
		for _, label := range x.Labels {
			s += " " + label + ":"
		}
		s += " " + strings.Join(append([]string{x.Word}, x.Args...), " ") + ";"
	}
	return s[:min(len(s), 600)]
}

// check holds Plain against the model, and returns what it answered.
func check(t *testing.T, l []lines.Line) ([]lines.Line, int, api.Errno) {
	t.Helper()
	want, line, err := modelPlain(l)
	got, n, e := Plain(l)
	if n != line || e != err || !sameLines(got, want) {
		t.Fatalf("Plain(%s) =\n%s, %d, %d; not\n%s, %d, %d", short(l), short(got), n, e, short(want), line, err)
	}
	return got, n, e
}

// parse returns the lines of a source in which ; ends a line, as a line feed does.
func parse(s string) []lines.Line {
	l, at, err := lines.Parse(strings.ReplaceAll(s, ";", "\n"))
	if err != api.OK {
		panic("line " + strconv.Itoa(at) + " of the test: " + s)
	}
	return l
}

// becomes holds Plain of a source against another source.
func becomes(t *testing.T, source, want string) {
	t.Helper()
	got, _, err := check(t, parse(source))
	if err != api.OK || !sameLines(got, parse(want)) {
		t.Errorf("Plain(%s) = %s, %d; not %s", source, short(got), err, want)
	}
}

// fails holds Plain of lines against an error and its number.
func fails(t *testing.T, l []lines.Line, line int, err api.Errno) {
	t.Helper()
	got, n, e := check(t, l)
	if n != line || e != err || len(got) != 0 {
		t.Errorf("Plain(%s) = %s, %d, %d; not %d, %d", short(l), short(got), n, e, line, err)
	}
}

// random returns a source of numbers below n that is the same each time.
func random(seed uint64) func(n int) int {
	return func(n int) int {
		seed ^= seed << 13
		seed ^= seed >> 7
		seed ^= seed << 17
		return int(seed % uint64(n))
	}
}
