package cpu

import (
	"swage/api"
	"swage/bits"
	"swage/isa"
)

// step executes one step, unless the port is halted, and reports whether it did.
func (c *core) step() bool {
	if _, halted := c.Halted(); halted {
		return false
	}
	c.pc = c.fetch()
	return true
}

// fetch has the instruction at PC executed. Like all that execute, it leaves PC as it is, for
// a trap to tell it, and returns the address of the next instruction.
func (c *core) fetch() uint32 {
	w, err := c.Read(c.pc, 4)
	if err != api.OK {
		return c.refuse(err, FetchAlign, FetchFault, c.pc)
	}
	i, err := isa.Decode(w)
	if err != api.OK {
		return c.trap(Illegal, w)
	}
	return c.execute(i)
}

func (c *core) trap(cause, tval uint32) uint32 {
	c.cause, c.epc, c.tval = cause, c.pc, tval
	return c.vector
}

// refuse makes the trap for an access to an address that the memory refused with err.
func (c *core) refuse(err api.Errno, align, fault, at uint32) uint32 {
	if err == api.ErrAlign {
		return c.trap(align, at)
	}
	return c.trap(fault, at)
}

func (c *core) set(reg int, v uint32) {
	if reg != 0 {
		c.regs[reg] = v
	}
}

func (c *core) execute(i isa.Inst) uint32 {
	// The operands are read first: Rd may be one of their registers.
	a, b, imm := c.regs[i.Rs1], c.regs[i.Rs2], uint32(i.Imm)
	next, target, upper := c.pc+4, c.pc+imm, imm<<12
	switch i.Op {
	case isa.AUIPC:
		upper += c.pc
		fallthrough
	case isa.LUI:
		c.set(i.Rd, upper)
	case isa.JALR:
		target = (a + imm) &^ 1
		fallthrough
	case isa.JAL:
		c.set(i.Rd, next)
		return target
	case isa.BEQ, isa.BNE, isa.BLT, isa.BGE, isa.BLTU, isa.BGEU:
		if holds(i.Op, a, b) {
			return target
		}
	case isa.LB, isa.LH, isa.LW, isa.LBU, isa.LHU:
		return c.load(i.Op, i.Rd, a+imm)
	case isa.SB, isa.SH, isa.SW:
		return c.store(i.Op, a+imm, b)
	case isa.FENCE:
	case isa.ECALL:
		return c.trap(Call, 0)
	case isa.EBREAK:
		return c.trap(Break, c.pc)
	case isa.MUL, isa.MULH, isa.MULHSU, isa.MULHU, isa.DIV, isa.DIVU, isa.REM, isa.REMU:
		c.set(i.Rd, muldiv(i.Op, a, b))
	default:
		c.set(i.Rd, combine(i.Op, a, b, imm))
	}
	return next
}

// holds reports whether the condition of a branch holds.
func holds(op int, a, b uint32) bool {
	switch op {
	case isa.BEQ:
		return a == b
	case isa.BNE:
		return a != b
	case isa.BLT:
		return bits.Less(a, b)
	case isa.BGE:
		return !bits.Less(a, b)
	case isa.BLTU:
		return a < b
	}
	return a >= b
}

// combine returns what an operation from ADDI to AND makes of a and b, or of a and imm: there
// imm stands in for b, and the operation is that of the same name without the I.
func combine(op int, a, b, imm uint32) uint32 {
	switch op {
	case isa.ADDI:
		b = imm
		fallthrough
	case isa.ADD:
		return a + b
	case isa.SUB:
		return a - b
	case isa.SLTI:
		b = imm
		fallthrough
	case isa.SLT:
		return truth(bits.Less(a, b))
	case isa.SLTIU:
		b = imm
		fallthrough
	case isa.SLTU:
		return truth(a < b)
	case isa.XORI:
		b = imm
		fallthrough
	case isa.XOR:
		return a ^ b
	case isa.ORI:
		b = imm
		fallthrough
	case isa.OR:
		return a | b
	case isa.ANDI:
		b = imm
		fallthrough
	case isa.AND:
		return a & b
	case isa.SLLI:
		b = imm
		fallthrough
	case isa.SLL:
		return bits.Shift(a, b, bits.Left)
	case isa.SRLI:
		b = imm
		fallthrough
	case isa.SRL:
		return bits.Shift(a, b, bits.Right)
	case isa.SRAI:
		b = imm
	}
	return bits.Shift(a, b, bits.Arith)
}

func truth(is bool) uint32 {
	if is {
		return 1
	}
	return 0
}

// muldiv returns what an operation from MUL to REMU makes of a and b.
func muldiv(op int, a, b uint32) uint32 {
	switch op {
	case isa.MUL:
		return a * b
	case isa.MULH:
		return bits.Mulh(a, b)
	case isa.MULHSU:
		return bits.Mulhsu(a, b)
	case isa.MULHU:
		return bits.Mulhu(a, b)
	case isa.DIV:
		return bits.Div(a, b)
	case isa.DIVU:
		return bits.Divu(a, b)
	case isa.REM:
		return bits.Rem(a, b)
	}
	return bits.Remu(a, b)
}
