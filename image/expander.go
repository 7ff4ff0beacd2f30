package image

import (
	"strconv"

	"swage/api"
	"swage/lines"
	"swage/names"
)

const (
	listCount = 2
	allFlags  = names.Immediate | names.Inline | names.NoTail | names.Hidden
)

// expander takes lines one by one and writes them without header directives.
type expander struct {
	out   []lines.Line
	list  int                              // of the words that follow
	open  string                           // the own label of the word whose end label is still to be set, or ""
	last  [listCount][names.Buckets]string // the label of each bucket's last header, or ""
	heads []int                            // where in out the words of each heads begin
}

// expand returns lines with their header directives replaced.
func expand(l []lines.Line) ([]lines.Line, api.Errno) {
	var e expander
	for _, line := range l {
		if err := e.add(line); err != api.OK {
			return nil, err
		}
	}
	e.end()
	e.fillHeads()
	return e.out, api.OK
}

// add writes what stands for the next line.
func (e *expander) add(l lines.Line) api.Errno {
	if err := errorOf(l); err != api.OK {
		return err
	}
	switch l.Word {
	case "list":
		e.list = unless(l.Args[0] == "0", 1, 0)
		e.put(line(l.Labels, ""))
	case "def":
		e.define(l)
	case "part":
		e.begin(l)
	case "heads":
		e.reserveHeads(l)
	default:
		e.put(l)
	}
	return api.OK
}

// put writes lines.
func (e *expander) put(l ...lines.Line) {
	e.out = append(e.out, l...)
}

// define writes a word's header and goes on with the word.
func (e *expander) define(l lines.Line) {
	name := l.Args[0]
	own := Label(e.list, name)
	header := "^" + strconv.Itoa(e.list) + name
	last := &e.last[e.list][names.Hash(name)]
	e.end()
	e.put(
		line(nil, "align"),
		line(append(l.Labels, header), "word", reference(*last)),
		line(nil, "word", own),
		line(nil, "span", own, endOf(own)),
		line(nil, "byte", flagsAndName(l)...),
		line(nil, "align"),
		line(nil, "word", header),
		line([]string{own}, ""),
	)
	*last, e.open = header, own
}

// begin goes on with a word that has no header.
func (e *expander) begin(l lines.Line) {
	own := Label(e.list, l.Args[0])
	e.end()
	e.put(
		line(nil, "align"),
		line(l.Labels, "word", "0"),
		line([]string{own}, ""),
	)
	e.open = own
}

// end sets the end label of the word that is open, if one is.
func (e *expander) end() {
	if e.open != "" {
		e.put(line([]string{endOf(e.open)}, ""))
	}
	e.open = ""
}

// reserveHeads writes the words of the heads without their Args: which headers are the last ones is
// known at the source's end only.
func (e *expander) reserveHeads(l lines.Line) {
	e.end()
	first := len(e.out)
	e.heads = append(e.heads, first)
	for range listCount * names.Buckets {
		e.put(line(nil, "word"))
	}
	e.out[first].Labels = l.Labels
}

// fillHeads gives the words of all heads their Args.
func (e *expander) fillHeads() {
	for _, at := range e.heads {
		for _, buckets := range e.last {
			for _, header := range buckets {
				e.out[at].Args = []string{reference(header)}
				at++
			}
		}
	}
}

// reference returns the Arg for a header's label, or for "" that for no header.
func reference(header string) string {
	return unless(header == "", header, "0")
}

// endOf returns the end label of the word with this own label.
func endOf(own string) string { return own + "$" }

// line returns a line of these parts.
func line(labels []string, word string, args ...string) lines.Line {
	return lines.Line{Labels: labels, Word: word, Args: args}
}
