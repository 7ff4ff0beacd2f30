package isa

import (
	"swage/api"
	"swage/bits"
)

// Opcodes.
const (
	codeLoad   = 0x03
	codeOrder  = 0x0f
	codeImm    = 0x13
	codeAUIPC  = 0x17
	codeStore  = 0x23
	codeReg    = 0x33
	codeLUI    = 0x37
	codeBranch = 0x63
	codeJALR   = 0x67
	codeJAL    = 0x6f
	codeBare   = 0x73
)

// Values of funct7.
const (
	plain  = 0
	muldiv = 1
	other  = 0x20 // SUB beside ADD, SRA beside SRL
)

// Encode returns the word of a legal record.
func Encode(i Inst) (uint32, api.Errno) {
	if !Legal(i) {
		return 0, api.ErrInst
	}
	// Registers that the shape does not have are 0, and so leave their bits to the other fields.
	registers := uint32(i.Rd)<<7 | uint32(i.Rs1)<<15 | uint32(i.Rs2)<<20
	return pattern(i.Op) | registers | scatter(uint32(i.Imm), Shape(i.Op)), api.OK
}

// Decode returns the legal record of a word.
func Decode(w uint32) (Inst, api.Errno) {
	op, ok := find(w)
	if !ok {
		return Inst{}, api.ErrWord
	}
	shape := Shape(op)
	f := fieldsOf(shape)
	return Inst{
		Op: op,
		// The last register is the mask of its field: all five bits, or none where the shape has no such field.
		Rd:  int(bits.Field(w, 7, 5)) & f.rd,
		Rs1: int(bits.Field(w, 15, 5)) & f.rs1,
		Rs2: int(bits.Field(w, 20, 5)) & f.rs2,
		Imm: int(int32(gather(w, shape))),
	}, api.OK
}

// find returns the operation whose pattern a word has.
func find(w uint32) (int, bool) {
	first, last := candidates(w)
	table, mine := funct3(), uint8(bits.Field(w, 12, 3))
	for op := first; op <= last; op++ {
		// Operations that share an opcode have a funct3: most are ruled out by it alone, which is quicker.
		if first < last && table[op] != mine {
			continue
		}
		if w&fixed(Shape(op)) == pattern(op) {
			return op, true
		}
	}
	return 0, false
}

// candidates returns the first and the last operation of a word's opcode. It spares find
// most operations; whether one of those that are left is the word's, find alone decides.
func candidates(w uint32) (first, last int) {
	switch bits.Field(w, 0, 7) {
	case codeLUI:
		return LUI, LUI
	case codeAUIPC:
		return AUIPC, AUIPC
	case codeJAL:
		return JAL, JAL
	case codeJALR:
		return JALR, JALR
	case codeBranch:
		return BEQ, BGEU
	case codeLoad:
		return LB, LHU
	case codeStore:
		return SB, SW
	case codeImm:
		return ADDI, SRAI
	case codeReg:
		if bits.Field(w, 25, 7) == muldiv {
			return MUL, REMU
		}
		return ADD, AND
	case codeOrder:
		return FENCE, FENCE
	case codeBare:
		return ECALL, EBREAK
	}
	return 0, -1
}

// pattern returns the bits that all words of an operation have alike; all others are 0.
func pattern(op int) uint32 {
	if op == EBREAK {
		return 1<<20 | codeBare
	}
	return funct7(op)<<25 | uint32(funct3()[op])<<12 | opcode(op)
}

// fixed returns the bits that the pattern of an operation of a shape fixes.
func fixed(shape int) uint32 {
	mask := uint32(0)
	switch shape {
	case Bare:
		return 1<<32 - 1
	case Order:
		return 1<<20 - 1 // Rd and Rs1 are 0
	case Small, Reg:
		mask = 0x7f << 25
		fallthrough
	case Imm, Branch, Store:
		mask |= 7 << 12
		fallthrough
	default:
		return mask | 0x7f
	}
}

func opcode(op int) uint32 {
	switch Shape(op) {
	case Upper:
		if op == LUI {
			return codeLUI
		}
		return codeAUIPC
	case Jump:
		return codeJAL
	case Branch:
		return codeBranch
	case Store:
		return codeStore
	case Imm:
		if op == JALR {
			return codeJALR
		}
		if op <= LHU {
			return codeLoad
		}
		fallthrough // ADDI to ANDI have the opcode of the small shifts
	case Small:
		return codeImm
	case Order:
		return codeOrder
	case Bare:
		return codeBare
	}
	return codeReg
}

func funct3() [count]uint8 {
	return [count]uint8{
		BEQ: 0, BNE: 1, BLT: 4, BGE: 5, BLTU: 6, BGEU: 7,
		LB: 0, LH: 1, LW: 2, LBU: 4, LHU: 5,
		SB: 0, SH: 1, SW: 2,
		ADDI: 0, SLTI: 2, SLTIU: 3, XORI: 4, ORI: 6, ANDI: 7,
		SLLI: 1, SRLI: 5, SRAI: 5,
		ADD: 0, SUB: 0, SLL: 1, SLT: 2, SLTU: 3, XOR: 4, SRL: 5, SRA: 5, OR: 6, AND: 7,
		MUL: 0, MULH: 1, MULHSU: 2, MULHU: 3, DIV: 4, DIVU: 5, REM: 6, REMU: 7,
	}
}

func funct7(op int) uint32 {
	switch {
	case op == SRAI || op == SUB || op == SRA:
		return other
	case op >= MUL:
		return muldiv
	}
	return plain
}

// scatter puts the bits of an Imm where the words of a shape have them.
func scatter(imm uint32, shape int) uint32 {
	switch shape {
	case Upper:
		return imm << 12
	case Jump:
		return bits.Field(imm, 12, 8)<<12 | bits.Field(imm, 11, 1)<<20 | bits.Field(imm, 1, 10)<<21 | bits.Field(imm, 20, 1)<<31
	case Branch:
		return bits.Field(imm, 11, 1)<<7 | bits.Field(imm, 1, 4)<<8 | bits.Field(imm, 5, 6)<<25 | bits.Field(imm, 12, 1)<<31
	case Store:
		return bits.Field(imm, 0, 5)<<7 | bits.Field(imm, 5, 7)<<25
	}
	// Imm, Small and Order; the Imm of the others is 0.
	return imm << 20
}

// gather returns the Imm, a signed word, from the bits of a word of a shape.
func gather(w uint32, shape int) uint32 {
	switch shape {
	case Upper:
		return bits.Field(w, 12, 20)
	case Jump:
		return bits.Sext(bits.Field(w, 12, 8)<<12|bits.Field(w, 20, 1)<<11|bits.Field(w, 21, 10)<<1|bits.Field(w, 31, 1)<<20, 21)
	case Imm, Order:
		return bits.Sext(bits.Field(w, 20, 12), 12)
	case Branch:
		return bits.Sext(bits.Field(w, 7, 1)<<11|bits.Field(w, 8, 4)<<1|bits.Field(w, 25, 6)<<5|bits.Field(w, 31, 1)<<12, 13)
	case Store:
		return bits.Sext(bits.Field(w, 7, 5)|bits.Field(w, 25, 7)<<5, 12)
	case Small:
		return bits.Field(w, 20, 5)
	}
	return 0
}
