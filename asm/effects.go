package asm

import (
	"swage/api"
	"swage/isa"
)

// effect is what a line does to the output.
type effect interface {
	// size returns the number of the bytes that it writes at an address.
	size(at uint32) int
	// write writes them, if all symbols are there and all instructions are legal.
	write(w *writer) api.Errno
}

// isCode reports whether an effect is an instruction's or a pseudo-instruction's.
func isCode(e effect) bool {
	switch e.(type) {
	case instruction, pair:
		return true
	}
	return false
}

// instruction is one instruction. Where it has a target with a name, its Imm is not yet known.
type instruction struct {
	isa.Inst
	target string
}

func (i instruction) size(uint32) int { return 4 }

func (i instruction) write(w *writer) api.Errno {
	record, refusal := i.Inst, api.ErrInst
	if i.target != "" {
		at, ok := w.places[i.target]
		if !ok {
			return api.ErrName
		}
		// As the machine's addresses, the way from one to another goes round at 2^32.
		record.Imm = int(int32(at - w.address()))
		refusal = api.ErrFar
	}
	code, err := isa.Encode(record)
	if err != api.OK {
		return refusal
	}
	w.word(code)
	return api.OK
}

// pair is a lui and an addi that together make a value in a register.
type pair struct {
	rd    int
	value operand
}

func (p pair) size(uint32) int { return 8 }

func (p pair) write(w *writer) api.Errno {
	v, err := w.valueOf(p.value)
	if err != api.OK {
		return err
	}
	// addi's number is signed: where it is negative, lui makes one more than the upper bits.
	low := int32(v<<20) >> 20
	// Both are legal, whatever the value.
	upper, _ := isa.Encode(isa.Inst{Op: isa.LUI, Rd: p.rd, Imm: int((v - uint32(low)) >> 12)})
	lower, _ := isa.Encode(isa.Inst{Op: isa.ADDI, Rd: p.rd, Rs1: p.rd, Imm: int(low)})
	w.word(upper)
	w.word(lower)
	return api.OK
}

// cells are words of 32 bits.
type cells []operand

func (c cells) size(uint32) int { return 4 * len(c) }

func (c cells) write(w *writer) api.Errno {
	for _, o := range c {
		v, err := w.valueOf(o)
		if err != api.OK {
			return err
		}
		w.word(v)
	}
	return api.OK
}

// span is the way from one symbol to another.
type span struct{ from, to string }

func (s span) size(uint32) int { return 4 }

func (s span) write(w *writer) api.Errno {
	from, ok := w.places[s.from]
	to, also := w.places[s.to]
	if !ok || !also {
		return api.ErrName
	}
	w.word(to - from)
	return api.OK
}

// raw is bytes as they are.
type raw string

func (r raw) size(uint32) int { return len(r) }

func (r raw) write(w *writer) api.Errno {
	w.text(string(r))
	return api.OK
}

// zeros is a number of zero bytes.
type zeros int

func (z zeros) size(uint32) int { return int(z) }

func (z zeros) write(w *writer) api.Errno {
	w.zeros(int(z))
	return api.OK
}

// align is zero bytes up to a multiple of 4.
type align struct{}

func (align) size(at uint32) int { return int(-at % 4) }

func (a align) write(w *writer) api.Errno {
	w.zeros(a.size(w.address()))
	return api.OK
}
