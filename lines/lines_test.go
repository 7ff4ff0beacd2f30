package lines

import (
	"reflect"
	"slices"
	"strings"
	"testing"
	"unsafe"

	"swage/api"
)

// place returns where the bytes of a text lie, from and to.
func place(s string) (from, to uintptr) {
	from = uintptr(unsafe.Pointer(unsafe.StringData(s)))
	return from, from + uintptr(len(s))
}

// within reports whether w lies in the memory of s.
func within(w, s string) bool {
	from, to := place(s)
	at, end := place(w)
	return w != "" && at < to && end > from
}

// allWords returns all texts of lines.
func allWords(l []Line) (all []string) {
	for _, x := range l {
		all = append(append(append(all, x.Labels...), x.Word), x.Args...)
	}
	return all
}

func TestP601ResultsShareNoBytes(t *testing.T) {
	for _, s := range texts() {
		s = strings.Clone(s)
		l, _, _ := Parse(s)
		again, _, _ := Parse(s)
		other := allWords(again)
		words := allWords(l)
		for k, w := range words {
			if within(w, s) {
				t.Errorf("Parse(%.100q): the word %q lies in the text", s, w)
			}
			if within(w, other[k]) {
				t.Errorf("Parse(%.100q): two results share the word %q", s, w)
			}
			for _, v := range words[:k] {
				if within(w, v) {
					t.Errorf("Parse(%.100q): the words %q and %q share memory", s, v, w)
				}
			}
		}
	}
	for _, l := range append(rights(), line(nil, strings.Clone("word"))) {
		s, _ := Print([]Line{l})
		for _, w := range allWords([]Line{l}) {
			if within(w, s) {
				t.Errorf("Print: the text %q lies in the word %q", s, w)
			}
		}
	}
}

// What is written to one list of a result, its unused capacity too, is seen nowhere else.
func TestP601ResultsShareNoLists(t *testing.T) {
	const s = "a: b: c: d e f g\nh: i: j k\n// l\nm n o p q r\n"
	want, _, _ := modelParse(s)
	untouched, _, _ := Parse(s)
	spoil := func(l []string) {
		for k := range l[:cap(l)] {
			l[:cap(l)][k] = "spoilt"
		}
	}
	for k := range want {
		for _, labels := range []bool{true, false} {
			l, _, _ := Parse(s)
			if labels {
				spoil(l[k].Labels)
				l[k].Labels = want[k].Labels
			} else {
				spoil(l[k].Args)
				l[k].Args = want[k].Args
			}
			if !sameLines(l, want) {
				t.Errorf("lists of line %d share memory with others: %q", k+1, l)
			}
		}
	}
	l, _, _ := Parse(s)
	for k := range l[:cap(l)] {
		l[:cap(l)][k] = Line{Word: "spoilt"}
	}
	if !sameLines(untouched, want) {
		t.Errorf("two results share memory: %q", untouched)
	}
}

// Print and Right leave lists as they are, behind their length too.
func TestP601ArgumentsAreNotChanged(t *testing.T) {
	for _, x := range append(rights(), wrongs()...) {
		given := func() []Line {
			labels := append(slices.Clone(x.Labels), "behind", "it")
			args := append(slices.Clone(x.Args), "behind", "it")
			return []Line{{labels[:len(x.Labels)], x.Word, args[:len(x.Args)]}, {Word: "behind"}}
		}
		l := given()
		Right(l[0])
		Print(l[:1])
		l[0].Labels, l[0].Args = l[0].Labels[:len(x.Labels)+2], l[0].Args[:len(x.Args)+2]
		want := given()
		want[0].Labels, want[0].Args = want[0].Labels[:len(x.Labels)+2], want[0].Args[:len(x.Args)+2]
		if !reflect.DeepEqual(l, want) {
			t.Errorf("Right or Print of %q changed it: %q", x, l)
		}
	}
}

func TestP601Pure(t *testing.T) {
	for range 3 {
		for _, s := range texts() {
			checkModel(t, s)
		}
		for _, l := range rights() {
			checkRight(t, l, true)
		}
		for _, l := range wrongs() {
			checkRight(t, l, false)
		}
	}
}

// Beside an error every other result is its zero value, but for the number that is asked for.
func TestP601ZeroBesideErrors(t *testing.T) {
	for _, s := range list("nop\n\"", "nop\nnop\n\"a\"b\nnop", "nop\n"+strings.Repeat("a", 257), strings.Repeat("nop\n", 32769)) {
		if l, _, err := Parse(s); len(l) != 0 || err == api.OK {
			t.Errorf("Parse(%.100q) = %d lines, %d", s, len(l), err)
		}
	}
	for _, l := range wrongs() {
		if s, err := Print([]Line{{Word: "nop"}, l}); s != "" || err != api.ErrArg {
			t.Errorf("Print(%q) = %q, %d", l, s, err)
		}
	}
}

// Huge and odd arguments are answered too.
func TestP601Ends(t *testing.T) {
	const n = 1 << 20
	checkParse(t, strings.Repeat("\n", n), nil, 0, api.ErrSize)
	checkParse(t, strings.Repeat("a", n), nil, 1, api.ErrSize)
	checkParse(t, strings.Repeat(`"`, n), nil, 1, api.ErrSize)
	checkRight(t, Line{Word: strings.Repeat("a", n)}, true)
	checkRight(t, Line{Word: strings.Repeat("a", n) + ":"}, false)
	if !Right(Line{Labels: slices.Repeat(list("a"), n), Word: "b", Args: slices.Repeat(list("c"), n)}) {
		t.Error("a long line is not valid")
	}
	if v, ok := Number(strings.Repeat("0", n) + "7"); v != 7 || !ok {
		t.Errorf("Number of 7 behind zeros = %d, %v", v, ok)
	}
}

func TestP602ParseLines(t *testing.T) {
	a, b, none := Line{Word: "a"}, Line{Word: "b"}, Line{}
	for _, x := range []struct {
		s    string
		want []Line
	}{
		{"", nil},
		{"\n", []Line{none}},
		{"\n\n", []Line{none, none}},
		{"a", []Line{a}},
		{"a\n", []Line{a}},
		{"a\nb", []Line{a, b}},
		{"a\nb\n", []Line{a, b}},
		{"a\n\nb\n\n", []Line{a, none, b, none}},
		{"\na", []Line{none, a}},
		{" ", []Line{none}},
		{"\t", []Line{none}},
		{" \t \n\t\t\n  ", []Line{none, none, none}},
		{"//", []Line{none}},
		{"// a\na\n//\n", []Line{none, a, none}},
	} {
		checkParse(t, x.s, x.want, 0, api.OK)
	}
}

func TestP602ParseWords(t *testing.T) {
	for _, x := range []struct {
		s    string
		want Line
	}{
		{"a: addi t0 t0 1 // x", line(list("a"), "addi", "t0", "t0", "1")},
		{"addi t0 t0 -1", line(nil, "addi", "t0", "t0", "-1")},
		{" \taddi\t t0 \t", line(nil, "addi", "t0")},
		{"a:", line(list("a"), "")},
		{"a: b:", line(list("a", "b"), "")},
		{"a: b: c d", line(list("a", "b"), "c", "d")},
		{"a:b: c:d", line(list("a:b"), "c:d")},
		{"a : b", line(nil, "a", ":", "b")},
		{":", line(nil, ":")},
		{": a", line(nil, ":", "a")},
		{": a: b:", line(nil, ":", "a:", "b:")},
		{"a: : b:", line(list("a"), ":", "b:")},
		{"::", line(list(":"), "")},
		{"::: a", line(list("::"), "a")},
		{":a b", line(nil, ":a", "b")},
		{"a b: c:", line(nil, "a", "b:", "c:")},
		{"a: b c: // d:", line(list("a"), "b", "c:")},
		{`/ /: /`, line(nil, "/", "/:", "/")},
		{`/: /`, line(list("/"), "/")},
	} {
		checkParse(t, x.s, []Line{x.want}, 0, api.OK)
		checkParse(t, x.s+"\nnop\n"+x.s, []Line{x.want, {Word: "nop"}, x.want}, 0, api.OK)
	}
}

func TestP602ParseQuotedTexts(t *testing.T) {
	for _, x := range []struct {
		s    string
		want Line
	}{
		{`text ""`, line(nil, "text", `""`)},
		{`text "" ""`, line(nil, "text", `""`, `""`)},
		{"text \"a b\tc\"\td", line(nil, "text", "\"a b\tc\"", "d")},
		{`text " "`, line(nil, "text", `" "`)},
		{`text "// a" // b`, line(nil, "text", `"// a"`)},
		{`text "a //"`, line(nil, "text", `"a //"`)},
		{`text "a:" ":"`, line(nil, "text", `"a:"`, `":"`)},
		{`"a b"`, line(nil, `"a b"`)},
		{`"a:"`, line(nil, `"a:"`)},
		{`"a:" b:`, line(nil, `"a:"`, "b:")},
		{`a: "b c" d`, line(list("a"), `"b c"`, "d")},
		{`text a"b c"d`, line(nil, "text", `a"b`, `c"d`)},
		{`text a" b "c d"`, line(nil, "text", `a"`, "b", `"c d"`)},
		{`a":`, line(list(`a"`), "")},
	} {
		checkParse(t, x.s, []Line{x.want}, 0, api.OK)
	}
}

func TestP602ParseOpenTexts(t *testing.T) {
	for _, s := range list(`"`, ` "`, `"a`, `text "`, `text "a b`, `text "a // b`, `a: "b:`, `text "a" "`, `"""`, `text """`, `""""`, `"a"b`, `""a`, `"a":`, `"":`,
		`"a"// b`, `"a"//`, `text "a b"c`, `text "a" "b"c"`, "\"a\"\r", "\"a\"\x00", "\"a\"\xa0", "\"a\"\v", "\"a\"\f") {
		checkParse(t, s, nil, 1, api.ErrLine)
		checkParse(t, s+"\n\"", nil, 1, api.ErrLine)
		checkParse(t, "a\n\n"+s+"\n", nil, 3, api.ErrLine)
		checkParse(t, s+" // a", nil, 1, api.ErrLine)
		checkParse(t, "// "+s, []Line{{}}, 0, api.OK)
		checkParse(t, `a//b "c" // `+s, []Line{line(nil, "a//b", `"c"`)}, 0, api.OK)
	}
	checkParse(t, "a\n\"b", nil, 2, api.ErrLine)
	// A quoted text ends in its line.
	checkParse(t, "\"a\nb\"", nil, 1, api.ErrLine)
	checkParse(t, "a \"\n\"", nil, 1, api.ErrLine)
}

func TestP602ParseComments(t *testing.T) {
	for _, x := range []struct {
		s    string
		want Line
	}{
		{"//", Line{}},
		{"//a", Line{}},
		{" \t// a: b", Line{}},
		{"///", Line{}},
		{`// "`, Line{}},
		{`//" a`, Line{}},
		{"//:", Line{}},
		{"a //b c", line(nil, "a")},
		{"a // b // c", line(nil, "a")},
		{"a: // b", line(list("a"), "")},
		{"a b\t// c", line(nil, "a", "b")},
		{"a// b", line(nil, "a//", "b")},
		{"a //", line(nil, "a")},
		{"a //:", line(nil, "a")},
		{"a//: b", line(list("a//"), "b")},
		{"a b//c / d", line(nil, "a", "b//c", "/", "d")},
		{"/ / a", line(nil, "/", "/", "a")},
		{"a /", line(nil, "a", "/")},
		{"/", line(nil, "/")},
		{"/a //", line(nil, "/a")},
		{`a "//" // "`, line(nil, "a", `"//"`)},
	} {
		checkParse(t, x.s, []Line{x.want}, 0, api.OK)
		checkParse(t, x.s+"\nb", []Line{x.want, {Word: "b"}}, 0, api.OK)
	}
}

// Only blanks, tabs and line feeds separate words.
func TestP602ParseEachByte(t *testing.T) {
	for k := range 256 {
		c := string([]byte{byte(k)})
		for _, s := range list(c, c+c, "a"+c, c+"a", "a"+c+"b", "a "+c, "a "+c+" b", "a "+c+c+" b", c+":", "a"+c+": b", "a"+c+":b", `a "`+c+`"`, `a "`+c+c+`" b`,
			`a "b"`+c, `a "b"`+c+" d", `"b"`+c+"d", "//"+c, "//"+c+"a", "a //"+c, "a/"+c+"/b", "a: "+c+" b:", c+": "+c+"b", "\xe2\x80"+c+" a\xc2"+c+"b") {
			checkModel(t, s)
			checkModel(t, s+"\n"+s)
		}
		switch k {
		case ' ', '\t':
			checkParse(t, "a"+c+"b", []Line{line(nil, "a", "b")}, 0, api.OK)
		case '\n':
			checkParse(t, "a"+c+"b", []Line{{Word: "a"}, {Word: "b"}}, 0, api.OK)
		default:
			checkParse(t, "a"+c+"b", []Line{{Word: "a" + c + "b"}}, 0, api.OK)
		}
	}
}

// All short texts of the bytes that matter are parsed as the model says.
func TestP602ParseShortTexts(t *testing.T) {
	short("a \t\"/:\n", 6, func(s string) { checkModel(t, s) })
	short(" \"/:", 8, func(s string) { checkModel(t, s) })
}

func TestP602ParseRandomTexts(t *testing.T) {
	pick := random()
	parts := list(" ", "  ", "\t", "\n", "\"", "\"", "/", "//", ":", "a", "bc", "a:", "\"d e\"", "\"f\" ", " // ", "\r", "\x00", "\xff")
	for range 30000 {
		var b strings.Builder
		for range pick(40) {
			b.WriteString(parts[pick(len(parts))])
		}
		checkModel(t, b.String())
	}
}

// A line may have MaxLine bytes, its blanks and its comment among them, its line feed not.
func TestP602ParseLongLines(t *testing.T) {
	if api.MaxLine != 256 {
		t.Fatal("the lines of this test are too long or too short")
	}
	for _, x := range []struct{ head, fill, tail string }{
		{"", "a", ""}, {"", " ", ""}, {"", "\t", ""}, {"", " ", "a"}, {"a", " ", ""}, {"// ", "a", ""}, {"a //", " ", ""}, {`"`, "a", `"`}, {`a "`, " ", `"`},
		{"a: ", "b", ""}, {"", "a", ":"}, {"", "\xff", ""}, {"", "\x00", ""},
	} {
		fit := x.head + strings.Repeat(x.fill, 256-len(x.head)-len(x.tail)) + x.tail
		over := x.head + strings.Repeat(x.fill, 257-len(x.head)-len(x.tail)) + x.tail
		words, _ := modelWords(fit)
		want := modelLine(words)
		checkParse(t, fit, []Line{want}, 0, api.OK)
		checkParse(t, fit+"\n", []Line{want}, 0, api.OK)
		checkParse(t, fit+"\n"+fit, []Line{want, want}, 0, api.OK)
		checkParse(t, over, nil, 1, api.ErrSize)
		checkParse(t, over+"\n", nil, 1, api.ErrSize)
		checkParse(t, fit+"\n\n"+over+"\na", nil, 3, api.ErrSize)
	}
}

func TestP602ParseManyLines(t *testing.T) {
	const n = 32768
	if api.MaxLines != n {
		t.Fatal("the texts of this test have too many lines or too few")
	}
	for _, x := range []struct{ text, last string }{{"", ""}, {"", "a"}, {"a", "a"}, {"a: b c", "// d"}, {"// a", " "}} {
		for _, few := range []int{n - 2, n - 1} {
			checkModel(t, strings.Repeat(x.text+"\n", few)+x.last)
			checkModel(t, strings.Repeat(x.text+"\n", few)+x.last+"\n")
		}
		l, at, err := Parse(strings.Repeat(x.text+"\n", n))
		if len(l) != n || at != 0 || err != api.OK {
			t.Errorf("Parse of %d lines %q = %d lines, %d, %d", n, x.text, len(l), at, err)
		}
		checkParse(t, strings.Repeat(x.text+"\n", n)+"a", nil, 0, api.ErrSize)
		checkParse(t, strings.Repeat(x.text+"\n", n)+" ", nil, 0, api.ErrSize)
		checkParse(t, strings.Repeat(x.text+"\n", n)+"\n", nil, 0, api.ErrSize)
		checkParse(t, strings.Repeat(x.text+"\n", n+1), nil, 0, api.ErrSize)
		checkParse(t, strings.Repeat(x.text+"\n", 2*n), nil, 0, api.ErrSize)
	}
}

func TestP602ParseFirstError(t *testing.T) {
	const n = 32768
	long := strings.Repeat("a", 257)
	openLong := `"` + long
	for _, x := range []struct {
		s   string
		at  int
		err api.Errno
	}{
		{long + "\n\"", 1, api.ErrSize},
		{"\"\n" + long, 1, api.ErrLine},
		{"a\n\"\n" + long + "\n\"", 2, api.ErrLine},
		{"a\n" + long + "\n\"\n" + long, 2, api.ErrSize},
		{openLong, 1, api.ErrSize},
		{"a\n" + openLong + "\n\"", 2, api.ErrSize},
		{`"a"b ` + long, 1, api.ErrSize},
		{"\"a\"b\n\"c", 1, api.ErrLine},
		{long + strings.Repeat("\n", n), 1, api.ErrSize},
		{"\"" + strings.Repeat("\n", n), 1, api.ErrLine},
		{long + strings.Repeat("\n", n+1), 0, api.ErrSize},
		{"\"" + strings.Repeat("\n", n+1), 0, api.ErrSize},
		{"\"" + strings.Repeat("\n", n) + "\"", 0, api.ErrSize},
		{strings.Repeat("\n", n) + long, 0, api.ErrSize},
		{strings.Repeat("\n", n-1) + long, n, api.ErrSize},
		{strings.Repeat("\n", n-1) + "\"", n, api.ErrLine},
		{strings.Repeat("\n", n-1) + "\"\n", n, api.ErrLine},
	} {
		checkParse(t, x.s, nil, x.at, x.err)
	}
}

func TestP602Right(t *testing.T) {
	for _, l := range append(rights(),
		line(list("a:b"), "a:b", "a:b"), line(list(`a"`, "a//", "/", "a:"), ""), line(list("/a"), "/a", "/a"), line(nil, "a//"), line(nil, `a"`), line(nil, `a"b"`),
		line(nil, ":"), line(nil, ":a", ":", "::"), line(nil, "a", `a"`, `a""`, "a:", ":", "/", "a//", `" // "`, `":"`, "\"\t\""),
		line(nil, "0", "-1"), line(list("@0", "^0DUP"), "#", ";", "(", "\\"), line(nil, "\r", "\v", "\f", "\x00", "\x7f", "\x80", "\xa0", "\xff")) {
		checkRight(t, l, true)
	}
}

func TestP602NotRight(t *testing.T) {
	for _, l := range wrongs() {
		checkRight(t, l, false)
	}
	for _, s := range list("", " ", "\t", "\n", "a b", "a\tb", "a\nb", " a", "a ", "\ta", "a\t", "\na", "a\n", "//", "///", "//a", "//:", `"`, `"a`, `"""`, `"a"b"`, `"a"b`, `""a`,
		`"a" `, ` "a"`, `"a" "b"`, "\"a\nb\"", "\"\n\"", "\"a\"\n", "\"a\"\t", `"a":`, `"a"//`) {
		checkRight(t, line(list(s), ""), false)
		checkRight(t, line(list("a", s), "b"), false)
		checkRight(t, line(list(s, "a"), "b"), false)
		checkRight(t, line(nil, "a", s), false)
		checkRight(t, line(nil, "a", s, "b"), false)
		checkRight(t, line(nil, "a", "b", s), false)
		if s != "" {
			checkRight(t, line(nil, s), false)
			checkRight(t, line(list("a"), s, "b"), false)
		}
	}
	for _, s := range list(`""`, `"a"`, `"a b"`, `" "`, `":"`, `"a:"`, `"//"`) {
		checkRight(t, line(list(s), ""), false)
		checkRight(t, line(nil, s), false)
		checkRight(t, line(nil, s, "a"), false)
		checkRight(t, line(nil, "a", s), true)
	}
	for _, s := range list("a:", "::", ":a:", "ab:", "a//:", "/:", `a":`) {
		checkRight(t, line(nil, s), false)
		checkRight(t, line(list("a"), s, "b"), false)
		checkRight(t, line(nil, "a", s), true)
	}
	for _, s := range list("a", `""`, "", ":") {
		checkRight(t, line(nil, "", s), false)
		checkRight(t, line(list("a"), "", s), false)
	}
}

// Each byte is tried in each place.
func TestP602RightEachByte(t *testing.T) {
	for k := range 256 {
		c := string([]byte{byte(k)})
		for _, s := range list(c, c+c, "a"+c, c+"a", "a"+c+"b", `"`+c+`"`, `"a"`+c, c+`"a"`, "/"+c, c+"/", ":"+c, c+":") {
			for _, l := range []Line{line(list(s), ""), line(list(s), "a"), line(nil, s), line(nil, s, "a"), line(nil, "a", s)} {
				checkRight(t, l, modelRight(l))
			}
		}
	}
}

// All short texts of the bytes that matter are tried in each place.
func TestP602RightShortTexts(t *testing.T) {
	short("a \t\"/:\n", 5, func(s string) {
		for _, l := range []Line{line(list(s), ""), line(nil, s), line(nil, "a", s)} {
			if got := Right(l); got != modelRight(l) {
				t.Errorf("Right(%q) = %v", l, got)
			}
		}
	})
	short("a \t\"/:\n", 3, func(s string) {
		for _, l := range []Line{line(list(s), "a", s), line(list(s, s), s, s, s), line(nil, s, s)} {
			checkRight(t, l, modelRight(l))
		}
	})
}

func TestP602Print(t *testing.T) {
	for _, x := range []struct {
		l    []Line
		want string
	}{
		{nil, ""},
		{[]Line{}, ""},
		{[]Line{{}}, "\n"},
		{[]Line{{}, {}}, "\n\n"},
		{[]Line{{Labels: list(), Args: list()}}, "\n"},
		{[]Line{line(list("a", "b"), "addi", "t0", "t0", "-1")}, "a: b: addi t0 t0 -1\n"},
		{[]Line{line(list("a"), "")}, "a:\n"},
		{[]Line{line(list("a", "b"), "")}, "a: b:\n"},
		{[]Line{line(nil, "nop")}, "nop\n"},
		{[]Line{line(nil, "text", `" a // b "`)}, "text \" a // b \"\n"},
		{[]Line{line(nil, ":", ":")}, ": :\n"},
		{[]Line{line(list("a"), "b"), {}, line(nil, "c", "d")}, "a: b\n\nc d\n"},
		{[]Line{{Word: strings.Repeat("a", 300)}}, strings.Repeat("a", 300) + "\n"},
		{make([]Line, 40000), strings.Repeat("\n", 40000)},
	} {
		if s, err := Print(x.l); s != x.want || err != api.OK {
			t.Errorf("Print(%.200q) = %.200q, %d, want %.200q", x.l, s, err, x.want)
		}
	}
}

func TestP603Inverse(t *testing.T) {
	checkBack(t, nil)
	checkBack(t, rights())
	for _, l := range rights() {
		checkBack(t, []Line{l})
		checkBack(t, []Line{{}, l, {}, l, {}})
	}
}

// A line is valid just if it is read back as it is, and its word is no quoted text.
func TestP603ShortTexts(t *testing.T) {
	try := func(l Line) {
		back, _, err := Parse(modelPrint([]Line{l}))
		same := err == api.OK && len(back) == 1 && sameLine(back[0], l) && !strings.HasPrefix(l.Word, `"`)
		if Right(l) != same {
			t.Errorf("%q is read back as %q, but Right of it is %v", l, back, Right(l))
		}
	}
	short("a \"/:\n", 4, func(s string) {
		try(line(list(s), "a", "b"))
		try(line(list("a"), s))
		try(line(nil, s, "a"))
		try(line(nil, "a", s))
		try(line(nil, "a", s, `"b c"`))
	})
	short("a \"/:", 2, func(a string) {
		short("a \"/:", 2, func(b string) {
			try(line(list(a, b), ""))
			try(line(list(a), b))
			try(line(nil, a, b))
			try(line(nil, "a", a, b))
		})
	})
}

func TestP603RandomLines(t *testing.T) {
	pick := random()
	labels := list("a", "b:", ":", "/", `c"`, "d//", "\xff", "\r", "@1", "=0DUP$")
	words := list(":", "/", "nop", `e"f`, ":g", "h//", "\x00", "addi")
	args := list("a", ":", "i:", "/", `""`, `"j k"`, `" // "`, `":"`, "\"\t\"", `l"m`, "n//", "-1", "0x1f", "'Z'", "\xc3\x28")
	some := func(of []string) (l []string) {
		for range pick(4) {
			l = append(l, of[pick(len(of))])
		}
		return l
	}
	for range 3000 {
		var l []Line
		for range pick(6) {
			x := Line{Labels: some(labels)}
			if pick(4) > 0 {
				x.Word, x.Args = words[pick(len(words))], some(args)
			}
			l = append(l, x)
		}
		checkBack(t, l)
	}
}

func TestP603Limits(t *testing.T) {
	for n := 250; n <= 256; n++ {
		checkBack(t, []Line{{Word: strings.Repeat("a", n)}, {Labels: list(strings.Repeat("a", n-1))}, line(nil, "b", strings.Repeat("a", n-2))})
	}
	for _, l := range []Line{{Word: strings.Repeat("a", 257)}, {Labels: list(strings.Repeat("a", 256))}, line(nil, "b", strings.Repeat("a", 255))} {
		s, err := Print([]Line{{}, l})
		if err != api.OK {
			t.Errorf("Print of a long line = %d", err)
		}
		checkParse(t, s, nil, 2, api.ErrSize)
	}
	all := slices.Repeat([]Line{line(list("a"), "b", `"c d"`)}, 32768)
	checkBack(t, all)
	s, _ := Print(append(all, Line{}))
	checkParse(t, s, nil, 0, api.ErrSize)
}

// spaced returns the text of words with blanks and tabs added ahead of them, between and behind them.
func spaced(words []string, gap, ahead, behind string) string {
	return ahead + strings.Join(words, gap) + behind
}

func TestP604Spacing(t *testing.T) {
	lists := [][]string{nil, {"a"}, {"a:"}, {"a:", "b:"}, {":"}, {"a:", "b", "c:", "d"}, {`"a b"`}, {"a", `"b  c"`, `""`, `"// d"`}, {"a//b", "/", "c"}, {"a:", ":", `":"`},
		{"\r", "\x00", "\xff"}}
	gaps := list(" ", "\t", "  ", "\t\t", " \t ", "\t \t", strings.Repeat(" ", 40))
	comments := list("", "//", "// a", "//a: \"", "/// b \"c\" //", "//\t", "//\x00\xff\r")
	for _, words := range lists {
		want, _, err := Parse(strings.Join(words, " ") + "\n")
		if err != api.OK || len(want) != 1 || !sameLine(want[0], modelLine(words)) {
			t.Fatalf("%q are read as %q, %d", words, want, err)
		}
		for _, gap := range gaps {
			for _, ahead := range append(gaps, "") {
				for _, behind := range append(gaps, "") {
					s := spaced(words, gap, ahead, behind)
					checkParse(t, s+"\n", want, 0, api.OK)
					for _, c := range comments {
						if len(words) == 0 || behind != "" {
							checkParse(t, s+c+"\n", want, 0, api.OK)
						}
					}
				}
			}
		}
	}
}

// Spacing in one line leaves the others as they are, and an open text stays one.
func TestP604OtherLines(t *testing.T) {
	want := []Line{line(list("a"), "b", "c"), {}, line(nil, "d", `"e f"`)}
	checkParse(t, "a: b c\n\nd \"e f\"\n", want, 0, api.OK)
	checkParse(t, "\ta:  b\tc // x\n \t// y\n d\t \"e f\" // z \"", want, 0, api.OK)
	for _, gap := range list(" ", "\t", "  ", " \t") {
		checkParse(t, "a"+gap+"\"b"+gap, nil, 1, api.ErrLine)
		checkParse(t, gap+"// a\n"+gap+"\"b\"c"+gap+"// d", nil, 2, api.ErrLine)
	}
}
