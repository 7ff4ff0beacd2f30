package flow

import (
	"strings"

	"swage/lines"
)

// mark begins the generated labels, and so no others.
const mark = "@"

// hasMark reports whether one of a line's labels could be taken for a generated one.
func hasMark(labels []string) bool {
	for _, label := range labels {
		if strings.HasPrefix(label, mark) {
			return true
		}
	}
	return false
}

// isFlow reports whether a word is a flow word.
func isFlow(word string) bool {
	switch word {
	case "else", "then", "begin", "repeat", "again":
		return true
	}
	return asks(word)
}

// asks reports whether a word is a flow word that has a condition.
func asks(word string) bool {
	return word == "if" || word == "while" || word == "until"
}

// hasItsArgs reports whether the Args of a flow word are as they must be.
func hasItsArgs(l lines.Line) bool {
	if !asks(l.Word) {
		return len(l.Args) == 0
	}
	if len(l.Args) != 3 {
		return false
	}
	_, ok := Opposite(l.Args[1])
	return ok
}

// copied returns a line that shares nothing with l.
func copied(l lines.Line) lines.Line {
	return lines.Line{Labels: copiedTexts(l.Labels), Word: strings.Clone(l.Word), Args: copiedTexts(l.Args)}
}

func copiedTexts(l []string) []string {
	var all []string
	for _, s := range l {
		all = append(all, strings.Clone(s))
	}
	return all
}
