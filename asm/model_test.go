package asm

import (
	"strings"

	"swage/api"
	"swage/isa"
	"swage/lines"
)

// A test's name begins with the number of the promise that it holds.

// forms is made once: so many calls ask for it.
var forms = modelForms()

// modelForms says what Args each instruction and pseudo-instruction takes (r a register, n a
// number, t a target, s a symbol), and each data word whose Args are fixed.
func modelForms() map[string]string {
	forms := map[string]string{
		"li": "rn", "la": "rs", "mv": "rr", "nop": "", "ret": "", "call": "t", "j": "t",
		"not": "rr", "neg": "rr", "beqz": "rt", "bnez": "rt",
		"align": "", "span": "ss", "space": "n", "": "",
	}
	for form, words := range map[string]string{
		"rn":  "lui auipc",
		"rt":  "jal",
		"rnr": "jalr lb lh lw lbu lhu sb sh sw",
		"rrn": "addi slti sltiu xori ori andi slli srli srai",
		"rrt": "beq bne blt bge bltu bgeu",
		"rrr": "add sub sll slt sltu xor srl sra or and mul mulh mulhsu mulhu div divu rem remu",
		"":    "ecall ebreak",
		"n":   "fence",
	} {
		for _, w := range strings.Fields(words) {
			forms[w] = form
		}
	}
	return forms
}

// modelKind tells what an Arg is: a number n, a register r, a symbol s, or none of them.
func modelKind(arg string) byte {
	if _, ok := lines.Number(arg); ok {
		return 'n'
	}
	if _, ok := lines.Register(arg); ok {
		return 'r'
	}
	if arg == "" || arg[0] == '"' {
		return '-'
	}
	return 's'
}

func modelFits(form string, args []string) bool {
	if len(form) != len(args) {
		return false
	}
	for k := range args {
		kind := modelKind(args[k])
		if form[k] == 't' && (kind == 'n' || kind == 's') {
			continue
		}
		if form[k] != kind {
			return false
		}
	}
	return true
}

// modelSize says what Size answers for a word at an address, and whether it is a data word.
func modelSize(word string, args []string, at uint32) (n int, data bool, err api.Errno) {
	switch word {
	case "":
		return 0, true, api.OK
	case "word", "byte":
		for _, arg := range args {
			kind := modelKind(arg)
			v, _ := lines.Number(arg)
			if word == "word" && kind != 'n' && kind != 's' || word == "byte" && (kind != 'n' || v < -128 || v > 255) {
				return 0, true, api.ErrLine
			}
		}
		if len(args) == 0 {
			return 0, true, api.ErrLine
		}
		return len(args) * map[string]int{"word": 4, "byte": 1}[word], true, api.OK
	case "text":
		if len(args) != 1 || len(args[0]) < 2 || args[0][0] != '"' {
			return 0, true, api.ErrLine
		}
		return len(args[0]) - 2, true, api.OK
	}
	form, ok := forms[word]
	if !ok || !modelFits(form, args) {
		return 0, true, api.ErrLine
	}
	switch word {
	case "align":
		for (at+uint32(n))&3 != 0 {
			n++
		}
		return n, true, api.OK
	case "span":
		return 4, true, api.OK
	case "space":
		n, _ = lines.Number(args[0])
		if n < 0 || n > 131072 {
			return 0, true, api.ErrLine
		}
		return n, true, api.OK
	case "la":
		return 8, false, api.OK
	case "li":
		v, _ := lines.Number(args[1])
		if v < -2048 || v > 2047 {
			return 8, false, api.OK
		}
	}
	return 4, false, api.OK
}

// modelRecords says what the records of an instruction or a pseudo-instruction are, when v are the
// values of its Args: for a target the Imm, for a symbol that is none the address.
func modelRecords(word string, v []int) []isa.Inst {
	one := func(op, rd, rs1, rs2, imm int) []isa.Inst {
		return []isa.Inst{{Op: op, Rd: rd, Rs1: rs1, Rs2: rs2, Imm: imm}}
	}
	switch word {
	case "nop":
		return one(isa.ADDI, 0, 0, 0, 0)
	case "ret":
		return one(isa.JALR, 0, 1, 0, 0)
	case "mv":
		return one(isa.ADDI, v[0], v[1], 0, 0)
	case "not":
		return one(isa.XORI, v[0], v[1], 0, -1)
	case "neg":
		return one(isa.SUB, v[0], 0, v[1], 0)
	case "call":
		return one(isa.JAL, 1, 0, 0, v[0])
	case "j":
		return one(isa.JAL, 0, 0, 0, v[0])
	case "beqz":
		return one(isa.BEQ, 0, v[0], 0, v[1])
	case "bnez":
		return one(isa.BNE, 0, v[0], 0, v[1])
	case "li", "la":
		if word == "li" && v[1] >= -2048 && v[1] <= 2047 {
			return one(isa.ADDI, v[0], 0, 0, v[1])
		}
		// The number for lui is the one with which addi can do what is left.
		for _, upper := range []int{v[1] >> 12, v[1]>>12 + 1} {
			if low := v[1] - upper<<12; low >= -2048 && low <= 2047 {
				return append(one(isa.LUI, v[0], 0, 0, upper&0xfffff), one(isa.ADDI, v[0], v[0], 0, low)...)
			}
		}
	}
	op, _ := isa.ByName(word)
	switch forms[word] {
	case "rn", "rt":
		return one(op, v[0], 0, 0, v[1])
	case "rrn":
		return one(op, v[0], v[1], 0, v[2])
	case "rrt":
		return one(op, 0, v[0], v[1], v[2])
	case "rrr":
		return one(op, v[0], v[1], v[2], 0)
	case "n":
		return one(op, 0, 0, 0, v[0])
	case "rnr":
		if word[0] == 's' {
			return one(op, 0, v[2], v[0], v[1])
		}
		return one(op, v[0], v[2], 0, v[1])
	}
	return one(op, 0, 0, 0, 0)
}

// modelBytes says what the second pass makes of a right line at an address.
func modelBytes(l lines.Line, here uint32, places map[string]uint32) ([]byte, api.Errno) {
	n, data, _ := modelSize(l.Word, l.Args, here)
	if l.Word == "" || l.Word == "space" || l.Word == "align" {
		return make([]byte, n), api.OK
	}
	if l.Word == "text" {
		return []byte(l.Args[0][1 : len(l.Args[0])-1]), api.OK
	}
	refusal := api.ErrInst
	var v []int
	form := forms[l.Word]
	for k, arg := range l.Args {
		n, isNumber := lines.Number(arg)
		r, isRegister := lines.Register(arg)
		switch {
		case isNumber:
			v = append(v, n)
		case isRegister:
			v = append(v, r)
		default:
			at, ok := places[arg]
			if !ok {
				return nil, api.ErrName
			}
			v = append(v, int(at))
			if form != "" && form[k] == 't' {
				// Of all distances that lead there, the nearest one.
				v[k] -= int(here)
				for v[k] >= 1<<31 {
					v[k] -= 1 << 32
				}
				for v[k] < -1<<31 {
					v[k] += 1 << 32
				}
				refusal = api.ErrFar
			}
		}
	}
	if l.Word == "span" {
		v = []int{v[1] - v[0]}
	}
	var b []byte
	if data {
		for _, x := range v {
			for k := 0; k < 32 && (k < 8 || l.Word != "byte"); k += 8 {
				b = append(b, byte(x>>k))
			}
		}
		return b, api.OK
	}
	for _, i := range modelRecords(l.Word, v) {
		w, err := isa.Encode(i)
		if err != api.OK {
			return nil, refusal
		}
		b = append(b, byte(w), byte(w>>8), byte(w>>16), byte(w>>24))
	}
	return b, api.OK
}

// modelAssemble says what Assemble answers.
func modelAssemble(l []lines.Line, at uint32) (Out, int, api.Errno) {
	if len(l) > 32768 || at&3 != 0 {
		return Out{}, 0, api.ErrSize
	}
	var o Out
	places := map[string]uint32{}
	size := 0
	for k, line := range l {
		here := at + uint32(size)
		for _, label := range line.Labels {
			if _, ok := places[label]; ok {
				return Out{}, k + 1, api.ErrTwice
			}
			places[label] = here
			o.Symbols = append(o.Symbols, Symbol{label, here})
		}
		n, data, err := modelSize(line.Word, line.Args, here)
		if err != api.OK {
			return Out{}, k + 1, err
		}
		if !data && here&3 != 0 {
			return Out{}, k + 1, api.ErrFault
		}
		size += n
		if size > 131072 {
			return Out{}, k + 1, api.ErrSize
		}
	}
	for k, line := range l {
		b, err := modelBytes(line, at+uint32(len(o.Bytes)), places)
		if err != api.OK {
			return Out{}, k + 1, err
		}
		o.Bytes = append(o.Bytes, b...)
	}
	return o, 0, api.OK
}

// random returns a function that answers numbers from 0 to n - 1, the same ones at each run.
func random(seed uint64) func(n int) int {
	x := seed*2 + 1
	return func(n int) int {
		x ^= x << 13
		x ^= x >> 7
		x ^= x << 17
		return int((x >> 33) % uint64(n))
	}
}
