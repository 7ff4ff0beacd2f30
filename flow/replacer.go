package flow

import (
	"strconv"

	"swage/api"
	"swage/lines"
)

// structure is an if or a begin that is open. Its labels are told by their numbers.
type structure struct {
	loop  bool // it is a begin
	split bool // its else or its while has come
	back  int  // the label at the begin
	ahead int  // the label that is still to be set; a begin has none until its while
}

// replacer takes lines one by one and writes them without flow words.
type replacer struct {
	out  []lines.Line
	open []structure // what was opened last is at the end
	next int         // the number of the next generated label
}

// add writes what stands for the next line.
func (r *replacer) add(l lines.Line) api.Errno {
	if hasMark(l.Labels) {
		return api.ErrName
	}
	l = copied(l)
	if !isFlow(l.Word) {
		r.out = append(r.out, l)
		return api.OK
	}
	if !hasItsArgs(l) {
		return api.ErrLine
	}
	if !r.isDue(l.Word) {
		return api.ErrPair
	}
	switch l.Word {
	case "if", "begin":
		r.start(l)
	case "else", "while":
		r.halve(l)
	default:
		r.finish(l)
	}
	return api.OK
}

// isDue reports whether a flow word may come here: what it closes or continues was opened last.
func (r *replacer) isDue(word string) bool {
	if word == "if" || word == "begin" {
		return true
	}
	if len(r.open) == 0 {
		return false
	}
	s := r.open[len(r.open)-1]
	switch word {
	case "then":
		return !s.loop
	case "else":
		return !s.loop && !s.split
	case "repeat":
		return s.loop && s.split
	}
	return s.loop && !s.split
}

// start replaces a word that opens a structure.
func (r *replacer) start(l lines.Line) {
	k := r.generate()
	if l.Word == "if" {
		r.branch(l, k)
		r.open = append(r.open, structure{ahead: k})
		return
	}
	r.set(l.Labels, k)
	r.open = append(r.open, structure{loop: true, back: k})
}

// halve replaces the word in the middle of a structure. From there on its end has a label of its own.
func (r *replacer) halve(l lines.Line) {
	s := &r.open[len(r.open)-1]
	m := r.generate()
	if l.Word == "while" {
		r.branch(l, m)
	} else {
		r.leave(l.Labels, always, m)
		r.set(nil, s.ahead)
	}
	s.ahead, s.split = m, true
}

// finish replaces a word that closes a structure.
func (r *replacer) finish(l lines.Line) {
	last := len(r.open) - 1
	s := r.open[last]
	r.open = r.open[:last]
	labels := l.Labels
	switch l.Word {
	case "until":
		r.branch(l, s.back)
	case "again":
		r.leave(labels, always, s.back)
	case "repeat":
		r.leave(labels, always, s.back)
		labels = nil // the line before has them
		fallthrough
	case "then":
		r.set(labels, s.ahead)
	}
}

// generate returns the number of a new label.
func (r *replacer) generate() int {
	k := r.next
	r.next++
	return k
}

// set writes a line that has the label k behind those given.
func (r *replacer) set(labels []string, k int) {
	r.out = append(r.out, lines.Line{Labels: append(labels, generated(k))})
}

// branch writes a line that goes to the label k unless the condition of l holds.
func (r *replacer) branch(l lines.Line, k int) {
	r.leave(l.Labels, condition(l.Args[1]).contrary, k, l.Args[0], l.Args[2])
}

// leave writes a line that goes to the label k by a branch of the name that is composed.
func (r *replacer) leave(labels []string, compose func() string, k int, args ...string) {
	r.out = append(r.out, lines.Line{Labels: labels, Word: compose(), Args: append(args, generated(k))})
}

// condition is the name of a condition.
type condition string

// contrary composes the name of the branch that is taken where the condition doesn't hold.
func (c condition) contrary() string {
	opposite, _ := Opposite(string(c))
	return "b" + opposite
}

// always composes the name of the branch that is taken whatever holds.
func always() string { return "j" }

// generated composes the label of a number, anew each time, for no two texts may share memory.
func generated(k int) string { return mark + strconv.Itoa(k) }
