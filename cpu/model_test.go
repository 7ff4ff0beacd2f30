package cpu

import (
	"bytes"
	"math/big"
	"testing"

	"swage/api"
	"swage/isa"
	"swage/memory"
	"swage/port"
)

// model says what a machine is, number by number: its numbers are from 0 to 2^32 - 1, but are
// reckoned without an end, and taken modulo 2^32 then.
type model struct {
	regs                         [32]int64
	pc, cause, epc, tval, vector int64
	bytes                        []byte
	holes                        []memory.Hole
	in, out                      []byte
	code                         int64
	halted                       bool
}

func mod(x int64) int64 {
	return (x%(1<<32) + 1<<32) % (1 << 32)
}

func signed(x int64) int64 {
	if x >= 1<<31 {
		return x - 1<<32
	}
	return x
}

func number(is bool) int64 {
	if is {
		return 1
	}
	return 0
}

// down returns x by 2^n, rounded down.
func down(x, n int64) int64 {
	for range n {
		x = (x - (x%2+2)%2) / 2
	}
	return x
}

func up(x, n int64) int64 {
	for range n {
		x = x * 2 % (1 << 32)
	}
	return x
}

// high returns x * y by 2^32, rounded down.
func high(x, y int64) int64 {
	p := new(big.Int).Mul(big.NewInt(x), big.NewInt(y))
	return p.Div(p, big.NewInt(1<<32)).Int64() // Div rounds down for a divisor that isn't negative
}

func (o *model) set(rd int, v int64) {
	if rd > 0 {
		o.regs[rd] = mod(v)
	}
}

func (o *model) trap(cause, pc, tval int64) {
	o.cause, o.epc, o.tval = cause, pc, tval
	o.pc = o.vector
}

// there reports whether n addresses exist and are in no hole.
func (o *model) there(at int64, n int) bool {
	for k := at; k < at+int64(n); k++ {
		if k >= int64(len(o.bytes)) {
			return false
		}
		for _, h := range o.holes {
			if k >= int64(h.From) && k < int64(h.To) {
				return false
			}
		}
	}
	return true
}

func (o *model) read(at int64, n int) int64 {
	v := int64(0)
	for k := n - 1; k >= 0; k-- {
		v = v*256 + int64(o.bytes[at+int64(k)])
	}
	return v
}

func (o *model) step() bool {
	if o.halted {
		return false
	}
	if o.pc%4 != 0 {
		o.trap(FetchAlign, o.pc, o.pc)
		return true
	}
	if !o.there(o.pc, 4) {
		o.trap(FetchFault, o.pc, o.pc)
		return true
	}
	w := o.read(o.pc, 4)
	i, err := isa.Decode(uint32(w))
	if err != api.OK {
		o.trap(Illegal, o.pc, w)
		return true
	}
	o.execute(i)
	return true
}

func (o *model) run(fuel int) int {
	for n := range max(fuel, 0) {
		if !o.step() {
			return n
		}
	}
	return max(fuel, 0)
}

func (o *model) execute(i isa.Inst) {
	pc, imm, a, b := o.pc, int64(i.Imm), o.regs[i.Rs1], o.regs[i.Rs2]
	name, at := isa.Name(i.Op), mod(a+imm)
	o.pc = mod(pc + 4)
	switch name {
	case "lui":
		o.set(i.Rd, imm*4096)
	case "auipc":
		o.set(i.Rd, pc+imm*4096)
	case "jal":
		o.set(i.Rd, pc+4)
		o.pc = mod(pc + imm)
	case "jalr":
		o.set(i.Rd, pc+4)
		o.pc = at - at%2
	case "beq", "bne", "blt", "bge", "bltu", "bgeu":
		if branches(name, a, b) {
			o.pc = mod(pc + imm)
		}
	case "lb", "lbu":
		o.load(pc, i.Rd, at, 1, name == "lb")
	case "lh", "lhu":
		o.load(pc, i.Rd, at, 2, name == "lh")
	case "lw":
		o.load(pc, i.Rd, at, 4, false)
	case "sb":
		o.store(pc, at, 1, b)
	case "sh":
		o.store(pc, at, 2, b)
	case "sw":
		o.store(pc, at, 4, b)
	case "fence":
	case "ecall":
		o.trap(Call, pc, 0)
	case "ebreak":
		o.trap(Break, pc, pc)
	case "addi", "slti", "sltiu", "xori", "ori", "andi", "slli", "srli", "srai":
		o.set(i.Rd, immediate(name, a, imm))
	default:
		o.set(i.Rd, combined(name, a, b))
	}
}

func branches(name string, a, b int64) bool {
	switch name {
	case "beq":
		return a == b
	case "bne":
		return a != b
	case "blt":
		return signed(a) < signed(b)
	case "bge":
		return signed(a) >= signed(b)
	case "bltu":
		return a < b
	case "bgeu":
		return a >= b
	}
	panic(name)
}

func immediate(name string, a, imm int64) int64 {
	switch name {
	case "addi":
		return a + imm
	case "slti":
		return number(signed(a) < imm)
	case "sltiu":
		return number(a < mod(imm))
	case "xori":
		return a ^ mod(imm)
	case "ori":
		return a | mod(imm)
	case "andi":
		return a & mod(imm)
	case "slli":
		return up(a, imm)
	case "srli":
		return down(a, imm)
	case "srai":
		return down(signed(a), imm)
	}
	panic(name)
}

func combined(name string, a, b int64) int64 {
	switch name {
	case "add":
		return a + b
	case "sub":
		return a - b
	case "sll":
		return up(a, b%32)
	case "slt":
		return number(signed(a) < signed(b))
	case "sltu":
		return number(a < b)
	case "xor":
		return a ^ b
	case "srl":
		return down(a, b%32)
	case "sra":
		return down(signed(a), b%32)
	case "or":
		return a | b
	case "and":
		return a & b
	case "mul":
		return signed(a) * signed(b)
	case "mulh":
		return high(signed(a), signed(b))
	case "mulhsu":
		return high(signed(a), b)
	case "mulhu":
		return high(a, b)
	}
	return divided(name, a, b)
}

func divided(name string, a, b int64) int64 {
	switch {
	case b == 0 && (name == "div" || name == "divu"):
		return -1
	case b == 0 && (name == "rem" || name == "remu"):
		return a
	case name == "div":
		return signed(a) / signed(b)
	case name == "divu":
		return a / b
	case name == "rem":
		return signed(a) % signed(b)
	case name == "remu":
		return a % b
	}
	panic(name)
}

func (o *model) load(pc int64, rd int, at int64, n int, signs bool) {
	if at%int64(n) != 0 {
		o.trap(LoadAlign, pc, at)
		return
	}
	v := int64(0)
	switch {
	case at >= api.Port && n == 4 && at <= api.Port+28:
		v = o.loadPort(at)
	case o.there(at, n):
		v = o.read(at, n)
	default:
		o.trap(LoadFault, pc, at)
		return
	}
	if end := int64(1) << (8 * n); signs && v >= end/2 {
		v -= end
	}
	o.set(rd, v)
}

func (o *model) loadPort(at int64) int64 {
	switch at - api.Port {
	case 4:
		if len(o.in) == 0 {
			return 1<<32 - 1
		}
		v := o.in[0]
		o.in = o.in[1:]
		return int64(v)
	case 12:
		return o.cause
	case 16:
		return o.epc
	case 20:
		return o.tval
	case 24:
		return o.vector
	}
	return 0
}

func (o *model) store(pc, at int64, n int, v int64) {
	switch {
	case at%int64(n) != 0:
		o.trap(StoreAlign, pc, at)
	case at >= api.Port && n == 4 && at <= api.Port+28:
		o.storePort(at, v)
	case o.there(at, n):
		for k := range int64(n) {
			o.bytes[at+k] = byte(v % 256)
			v /= 256
		}
	default:
		o.trap(StoreFault, pc, at)
	}
}

func (o *model) storePort(at, v int64) {
	switch at - api.Port {
	case 0:
		if len(o.out) < api.MaxOutput {
			o.out = append(o.out, byte(v%256))
		}
	case 8:
		o.code, o.halted = v, true
	case 16:
		o.epc = v
	case 24:
		o.vector = v
	case 28:
		o.pc = o.epc
	}
}

// start says how a machine begins. Its memory holds the words from address at on; all other
// bytes, and the registers, are such that a change of them is seen.
type start struct {
	size   int // 64 if it is 0
	holes  []memory.Hole
	input  string
	pc, at uint32
	words  []uint32
	vector uint32
}

// far is an address that no memory has.
const far = 0x00200008

// both returns a machine that begins so, and its model. Both have had a trap before, so that
// a change of what it set is seen too.
func both(t testing.TB, s start) (*CPU, *model) {
	t.Helper()
	size := s.size
	if size == 0 {
		size = 64
	}
	o := &model{bytes: make([]byte, size), holes: s.holes, in: []byte(s.input)}
	for k := range o.bytes {
		o.bytes[k] = byte(k*37 + k>>8*11 + 129)
	}
	for k, w := range s.words {
		for n := range 4 {
			o.bytes[int(s.at)+4*k+n] = byte(w >> (8 * n))
		}
	}
	m, err := memory.New(size, s.holes...)
	if err != api.OK {
		t.Fatalf("a memory of %d bytes with the holes %v: %d", size, s.holes, err)
	}
	if err := m.Put(0, o.bytes); err != api.OK {
		t.Fatalf("Put of the memory's bytes: %d", err)
	}
	c := mustNew(t, m, mustPort(t, s.input), far)
	for k := range 32 {
		setReg(c, o, k, uint32(k)*0x04030201+0x80)
	}
	o.pc = far
	setVector(c, o, s.pc)
	c.Step()
	o.step()
	setVector(c, o, s.vector)
	same(t, c, o)
	return c, o
}

func mustPort(t testing.TB, input string) *port.Port {
	t.Helper()
	p, err := port.New([]byte(input))
	if err != api.OK {
		t.Fatalf("a port with %d bytes: %d", len(input), err)
	}
	return p
}

func mustMemory(t testing.TB, size int, words ...uint32) *memory.Memory {
	t.Helper()
	m, err := memory.New(size)
	if err != api.OK {
		t.Fatalf("a memory of %d bytes: %d", size, err)
	}
	for k, w := range words {
		if err := m.Write(uint32(4*k), 4, w); err != api.OK {
			t.Fatalf("word %d: %d", k, err)
		}
	}
	return m
}

func mustNew(t testing.TB, m *memory.Memory, p *port.Port, pc uint32) *CPU {
	t.Helper()
	c, err := New(m, p, pc)
	if c == nil || err != api.OK {
		t.Fatalf("New(%p, %p, %#x) = %p, %d", m, p, pc, c, err)
	}
	return c
}

func setReg(c *CPU, o *model, n int, v uint32) {
	c.SetReg(n, v)
	o.set(n, int64(v))
}

func setVector(c *CPU, o *model, v uint32) {
	c.SetVector(v)
	o.vector = int64(v)
}

// checkStep has both execute a step, and holds them against each other.
func checkStep(t testing.TB, c *CPU, o *model) {
	t.Helper()
	if got, want := c.Step(), o.step(); got != want {
		t.Fatalf("Step() = %v, want %v", got, want)
	}
	same(t, c, o)
}

// checkSteps has both execute n steps, and holds them against each other after each.
func checkSteps(t testing.TB, c *CPU, o *model, n int) {
	t.Helper()
	for range n {
		checkStep(t, c, o)
	}
}

func checkRun(t testing.TB, c *CPU, o *model, fuel int) {
	t.Helper()
	if got, want := c.Run(fuel), o.run(fuel); got != want {
		t.Fatalf("Run(%d) = %d, want %d", fuel, got, want)
	}
	same(t, c, o)
}

// same holds all that can be looked at against the model.
func same(t testing.TB, c *CPU, o *model) {
	t.Helper()
	for n, v := range o.regs {
		if got := c.Reg(n); int64(got) != v {
			t.Fatalf("Reg(%d) = %#x, want %#x", n, got, v)
		}
	}
	if got := c.PC(); int64(got) != o.pc {
		t.Fatalf("PC() = %#x, want %#x", got, o.pc)
	}
	cause, epc, tval := c.Trap()
	if int64(cause) != o.cause || int64(epc) != o.epc || int64(tval) != o.tval {
		t.Fatalf("Trap() = %d, %#x, %#x, want %d, %#x, %#x", cause, epc, tval, o.cause, o.epc, o.tval)
	}
	if got := c.Vector(); int64(got) != o.vector {
		t.Fatalf("Vector() = %#x, want %#x", got, o.vector)
	}
	if got := c.Memory().Bytes(0, c.Memory().Size()); !bytes.Equal(got, o.bytes) {
		t.Fatalf("the memory is %.100x, want %.100x", got, o.bytes)
	}
	samePort(t, c.Port(), o)
}

func samePort(t testing.TB, p *port.Port, o *model) {
	t.Helper()
	if got := p.Output(); !bytes.Equal(got, o.out) {
		t.Fatalf("the output is %.100q, want %.100q", got, o.out)
	}
	if got := p.Left(); got != len(o.in) {
		t.Fatalf("%d bytes of the input are left, want %d", got, len(o.in))
	}
	code, halted := p.Halted()
	if int64(code) != o.code || halted != o.halted {
		t.Fatalf("the port: halted %d, %v, want %d, %v", code, halted, o.code, o.halted)
	}
}

// encode returns the words of instructions.
func encode(t testing.TB, program ...isa.Inst) []uint32 {
	t.Helper()
	words := make([]uint32, len(program))
	for k, i := range program {
		w, err := isa.Encode(i)
		if err != api.OK {
			t.Fatalf("instruction %d, %+v: %d", k, i, err)
		}
		words[k] = w
	}
	return words
}

// random returns words, the same ones each time for the same seed.
func random(seed uint32) func() uint32 {
	x := seed*2654435761 + 2463534242
	return func() uint32 {
		x ^= x << 13
		x ^= x >> 17
		x ^= x << 5
		return x
	}
}
