package lines

import (
	"iter"
	"strings"
)

const (
	blanks  = " \t" // the bytes that separate the words of a line
	quote   = '"'
	comment = "//"
)

// split produces the texts of the lines of a source text, without their line feeds.
func split(s string) iter.Seq[string] {
	return func(yield func(string) bool) {
		rest := s
		// The empty rest behind the last line feed is no line.
		for rest != "" {
			text, behind, _ := strings.Cut(rest, "\n")
			if !yield(text) {
				return
			}
			rest = behind
		}
	}
}

// words produces the words of a line's text up to its comment, each with whether it is whole: a
// quoted text that is not closed, or that another byte follows, is not.
func words(text string) iter.Seq2[string, bool] {
	return func(yield func(string, bool) bool) {
		rest := strings.TrimLeft(text, blanks)
		for rest != "" && !strings.HasPrefix(rest, comment) {
			n, whole := first(rest)
			if !yield(rest[:n], whole) {
				return
			}
			rest = strings.TrimLeft(rest[n:], blanks)
		}
	}
}

// first returns the length of the word with which s, which begins with one, begins, and whether
// that word is whole.
func first(s string) (n int, whole bool) {
	if s[0] != quote {
		n = strings.IndexAny(s, blanks)
		if n < 0 {
			n = len(s)
		}
		return n, true
	}
	inner := strings.IndexByte(s[1:], quote)
	if inner < 0 {
		return len(s), false
	}
	n = inner + 2
	return n, n == len(s) || strings.IndexByte(blanks, s[n]) >= 0
}

// isWord reports whether s, within a line, is read as one word that is s.
func isWord(s string) bool {
	if s == "" || strings.HasPrefix(s, comment) || strings.Contains(s, "\n") {
		return false
	}
	n, whole := first(s)
	return whole && n == len(s)
}

// isPlain reports whether s is a word that is no quoted text.
func isPlain(s string) bool {
	return isWord(s) && s[0] != quote
}

// isLabel reports whether a word is a label with its colon, if only such words stand ahead of it.
// A quoted text is none: it ends with a quote.
func isLabel(w string) bool {
	return len(w) >= 2 && strings.HasSuffix(w, ":")
}
