package asm

import (
	"swage/api"
	"swage/isa"
	"swage/lines"
)

const ra = 1 // the register for the address behind a call

// effectOf returns the effect of a line, and whether there is its word, with Args as the word requires.
func effectOf(l lines.Line) (effect, bool) {
	a := operands{rest: l.Args}
	var e effect
	switch l.Word {
	case "":
		return zeros(0), true // whatever its Args
	case "li":
		e = a.constant()
	case "la":
		e = pair{rd: a.register(), value: operand{symbol: a.symbol()}}
	case "word":
		e = a.cells()
	case "byte":
		e = a.bytes()
	case "text":
		e = a.text()
	case "space":
		e = zeros(a.between(0, api.MaxImage))
	case "align":
		e = align{}
	case "span":
		e = span{from: a.symbol(), to: a.symbol()}
	default:
		e = a.instruction(l.Word)
	}
	return e, a.end()
}

// constant reads the Args of li, which is as short as its number lets it be.
func (a *operands) constant() effect {
	rd, n := a.register(), a.number()
	short := isa.Inst{Op: isa.ADDI, Rd: rd, Imm: n}
	if isa.Legal(short) {
		return instruction{Inst: short}
	}
	return pair{rd: rd, value: operand{number: n}}
}

// instruction reads the Args of an instruction, or of a pseudo-instruction that stands for one.
func (a *operands) instruction(word string) instruction {
	var i instruction
	switch word {
	case "nop":
		i.Op = isa.ADDI
	case "ret":
		i.Op, i.Rs1 = isa.JALR, ra
	case "mv":
		i.Op, i.Rd, i.Rs1 = isa.ADDI, a.register(), a.register()
	case "not":
		i.Op, i.Rd, i.Rs1, i.Imm = isa.XORI, a.register(), a.register(), -1
	case "neg":
		i.Op, i.Rd, i.Rs2 = isa.SUB, a.register(), a.register()
	case "beqz":
		i.Op, i.Rs1 = isa.BEQ, a.register()
		a.target(&i)
	case "bnez":
		i.Op, i.Rs1 = isa.BNE, a.register()
		a.target(&i)
	case "call":
		i.Rd = ra
		fallthrough
	case "j":
		i.Op = isa.JAL
		a.target(&i)
	default:
		a.named(&i, word)
	}
	return i
}

// named reads the Args of the instruction with this name.
func (a *operands) named(i *instruction, word string) {
	op, ok := isa.ByName(word)
	if !ok {
		a.wrong = true
		return
	}
	i.Op = op
	switch isa.Shape(op) {
	case isa.Jump:
		i.Rd = a.register()
		a.target(i)
	case isa.Branch:
		i.Rs1, i.Rs2 = a.register(), a.register()
		a.target(i)
	case isa.Store:
		i.Rs2, i.Imm, i.Rs1 = a.register(), a.number(), a.register()
	case isa.Reg:
		i.Rd, i.Rs1, i.Rs2 = a.register(), a.register(), a.register()
	case isa.Imm, isa.Small:
		i.Rd = a.register()
		if op < isa.ADDI { // JALR and the loads
			i.Imm, i.Rs1 = a.number(), a.register()
			return
		}
		i.Rs1, i.Imm = a.register(), a.number()
	case isa.Upper:
		i.Rd = a.register()
		fallthrough
	case isa.Order:
		i.Imm = a.number()
	}
}
