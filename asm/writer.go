package asm

import "swage/api"

// list is bytes that grow at their end.
type list struct{ bytes []byte }

// word appends four bytes, the lowest first.
func (l *list) word(w uint32) {
	l.bytes = append(l.bytes, byte(w), byte(w>>8), byte(w>>16), byte(w>>24))
}

func (l *list) text(s string) {
	l.bytes = append(l.bytes, s...)
}

func (l *list) zeros(n int) {
	l.bytes = append(l.bytes, make([]byte, n)...)
}

// writer writes the output of the second pass, which knows where all symbols are.
type writer struct {
	list
	at     uint32
	places map[string]uint32
}

// address returns the address of the byte that is written next.
func (w *writer) address() uint32 {
	return w.at + uint32(len(w.bytes))
}

// valueOf returns the number of an operand, as a word, or the address of its symbol.
func (w *writer) valueOf(o operand) (uint32, api.Errno) {
	if o.symbol == "" {
		return uint32(o.number), api.OK
	}
	at, ok := w.places[o.symbol]
	if !ok {
		return 0, api.ErrName
	}
	return at, api.OK
}
