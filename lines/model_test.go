package lines

import (
	"slices"
	"strings"
	"testing"

	"swage/api"
)

// A test's name begins with the number of the promise that it holds.

// modelParse says, byte by byte, what Parse answers.
func modelParse(s string) (l []Line, at int, err api.Errno) {
	texts := strings.Split(s, "\n")
	if last := len(texts) - 1; texts[last] == "" {
		texts = texts[:last]
	}
	if len(texts) > 32768 {
		return nil, 0, api.ErrSize
	}
	for k, text := range texts {
		if len(text) > 256 {
			return nil, k + 1, api.ErrSize
		}
		words, ok := modelWords(text)
		if !ok {
			return nil, k + 1, api.ErrLine
		}
		l = append(l, modelLine(words))
	}
	return l, 0, api.OK
}

func modelWords(text string) (words []string, ok bool) {
	blank := func(k int) bool { return text[k] == 32 || text[k] == 9 }
	for k := 0; k < len(text); {
		from := k
		switch {
		case blank(k):
			k++
			continue
		case text[k] == '/' && k+1 < len(text) && text[k+1] == '/':
			return words, true
		case text[k] == '"':
			for k++; k < len(text) && text[k] != '"'; k++ {
			}
			if k == len(text) {
				return nil, false
			}
			k++
			if k < len(text) && !blank(k) {
				return nil, false
			}
		default:
			for k < len(text) && !blank(k) {
				k++
			}
		}
		words = append(words, text[from:k])
	}
	return words, true
}

func modelLine(words []string) (l Line) {
	for k, w := range words {
		if len(w) < 2 || w[0] == '"' || w[len(w)-1] != ':' {
			l.Word, l.Args = w, words[k+1:]
			return l
		}
		l.Labels = append(l.Labels, w[:len(w)-1])
	}
	return l
}

// modelRight says, sentence by sentence, which lines are valid.
func modelRight(l Line) bool {
	for _, s := range l.Labels {
		if s == "" || modelSpaced(s) || s[0] == '"' || strings.HasPrefix(s, "//") {
			return false
		}
	}
	for _, s := range l.Args {
		if !modelArg(s) {
			return false
		}
	}
	w := l.Word
	if w == "" {
		return len(l.Args) == 0
	}
	ends := w[len(w)-1] == ':'
	return !modelSpaced(w) && w[0] != '"' && !strings.HasPrefix(w, "//") && (!ends || len(w) == 1)
}

func modelSpaced(s string) bool {
	for k := range len(s) {
		if s[k] == 32 || s[k] == 9 || s[k] == 10 {
			return true
		}
	}
	return false
}

func modelArg(s string) bool {
	if s == "" || strings.HasPrefix(s, "//") {
		return false
	}
	if s[0] != '"' {
		return !modelSpaced(s)
	}
	return len(s) >= 2 && s[len(s)-1] == '"' && strings.Count(s, `"`) == 2 && strings.Count(s, "\n") == 0
}

// modelPrint says what the text of valid lines is.
func modelPrint(l []Line) (s string) {
	for _, x := range l {
		gap := ""
		put := func(w string) {
			s += gap + w
			gap = " "
		}
		for _, label := range x.Labels {
			put(label + ":")
		}
		if x.Word != "" {
			put(x.Word)
		}
		for _, arg := range x.Args {
			put(arg)
		}
		s += "\n"
	}
	return s
}

func sameLine(a, b Line) bool {
	return a.Word == b.Word && slices.Equal(a.Labels, b.Labels) && slices.Equal(a.Args, b.Args)
}

func sameLines(a, b []Line) bool {
	return slices.EqualFunc(a, b, sameLine)
}

// line returns a line of labels, a word and Args.
func line(labels []string, word string, args ...string) Line {
	return Line{Labels: labels, Word: word, Args: args}
}

func list(s ...string) []string { return s }

// checkParse holds Parse of s against what is wanted.
func checkParse(t *testing.T, s string, want []Line, at int, err api.Errno) {
	t.Helper()
	l, gotAt, gotErr := Parse(s)
	if !sameLines(l, want) || gotAt != at || gotErr != err {
		t.Errorf("Parse(%.200q) = %.400q, %d, %d, want %.400q, %d, %d", s, l, gotAt, gotErr, want, at, err)
	}
}

// checkModel holds Parse of s against the model.
func checkModel(t *testing.T, s string) {
	t.Helper()
	want, at, err := modelParse(s)
	checkParse(t, s, want, at, err)
}

// checkRight holds Right of a line, and Print of it alone, between others and ahead of one that is not valid, against what is wanted.
func checkRight(t *testing.T, l Line, want bool) {
	t.Helper()
	if got := Right(l); got != want {
		t.Errorf("Right(%q) = %v", l, got)
	}
	nop := Line{Word: "nop"}
	for _, x := range [][]Line{{l}, {nop, l}, {l, nop}, {nop, l, nop}} {
		s, err := Print(x)
		if want && (s != modelPrint(x) || err != api.OK) || !want && (s != "" || err != api.ErrArg) {
			t.Errorf("Print(%q) = %q, %d", x, s, err)
		}
	}
	if s, err := Print([]Line{l, {Args: list("a")}}); s != "" || err != api.ErrArg {
		t.Errorf("Print of %q and a line that is not valid = %q, %d", l, s, err)
	}
}

// checkBack holds what is read back of printed lines against the lines.
func checkBack(t *testing.T, l []Line) {
	t.Helper()
	s, err := Print(l)
	if err != api.OK {
		t.Errorf("Print(%.400q) = %d", l, err)
		return
	}
	checkParse(t, s, l, 0, api.OK)
}

// short calls do with each text of at most n bytes of an alphabet.
func short(alphabet string, n int, do func(s string)) {
	b := make([]byte, 0, n)
	var grow func()
	grow = func() {
		do(string(b))
		if len(b) == n {
			return
		}
		for k := range len(alphabet) {
			b = append(b, alphabet[k])
			grow()
			b = b[:len(b)-1]
		}
	}
	grow()
}

// random returns numbers from 0 to n - 1, the same ones each time.
func random() func(n int) int {
	x := uint32(2463534242)
	return func(n int) int {
		x ^= x << 13
		x ^= x >> 17
		x ^= x << 5
		return int(x>>3) % n
	}
}

// texts returns one text of each kind that Parse has to tell apart.
func texts() []string {
	return list("", "\n", "\n\n", "a", "a\n", "a\nb", "a\n\nb\n", "a: b", "a: b: c d e", ": a:", `a "b c" // d`, `"a" b`, "// a", "a // b",
		`a "b`, "a\n\"b", `"a"b`, "\t \n\r\x00\xff", strings.Repeat("a", 256), strings.Repeat("a", 257), strings.Repeat("\n", 32769))
}

// rights returns one valid line of each kind.
func rights() []Line {
	return []Line{{}, line(nil, "nop"), line(list("a"), ""), line(list("a", "b"), "addi", "t0", "t0", "-1"), line(nil, ":", ":", "a:"),
		line(list(":"), "/", `""`, `"a b"`, `"//"`, `a"b`, "a//b"), line(list("\r"), "\x00", "\xff\xfe")}
}

// wrongs returns one line of each kind that is not valid.
func wrongs() []Line {
	return []Line{line(list(""), ""), line(list("a b"), ""), line(list("a\tb"), ""), line(list("a\nb"), ""), line(list(`"a`), ""), line(list("//"), ""),
		line(nil, `"a"`), line(nil, "//"), line(nil, "a:"), line(nil, "", "a"), line(nil, "a b"), line(nil, "a", ""), line(nil, "a", "//"),
		line(nil, "a", `"b"c"`), line(nil, "a", "\"b\nc\""), line(nil, "a", `"b`), line(nil, "a", `"b"c`), line(nil, "a", "b c")}
}
