package cpu

import (
	"math"
	"reflect"
	"testing"

	"swage/api"
	"swage/isa"
	"swage/memory"
	"swage/port"
)

// A test's name begins with the number of the promise that it holds.

// edges: words around 0, 2^31 and 2^32, around the ends of bytes, halves and Imms, and some between.
var edges = []uint32{0, 1, 2, 3, 4, 7, 30, 31, 32, 33, 63, 64, 127, 128, 255, 256, 2047, 2048, 1<<15 - 1, 1 << 15, 1<<16 - 1, 1 << 16,
	0x12345678, 0x55555555, 1<<31 - 2, 1<<31 - 1, 1 << 31, 1<<31 + 1, 0x89abcdef, 0xaaaaaaaa, 0xffff7fff, 0xffff8000,
	0xfffff800, 0xfffff7ff, api.Port - 1, api.Port, 0xffffff80, 1<<32 - 33, 1<<32 - 32, 1<<32 - 31, 1<<32 - 7, 1<<32 - 4, 1<<32 - 2, 1<<32 - 1}

// imms: an Imm of 12 bits at its ends and around 0.
var imms = []int{-2048, -2047, -2046, -1025, -129, -128, -32, -5, -4, -3, -2, -1, 0, 1, 2, 3, 4, 5, 31, 32, 127, 128, 1023, 1024, 2045, 2046, 2047}

// counts: numbers that are no register's.
var counts = []int{-1, -2, -31, -32, 32, 33, 63, 64, 255, 256, 1 << 31, 1<<31 + 1, 1 << 32, 1<<32 + 1, -1 << 32, 1 - 1<<32, math.MaxInt, math.MinInt, math.MinInt + 1}

// one returns a machine whose next instruction, at address 16, is i, and its model.
func one(t testing.TB, i isa.Inst) (*CPU, *model) {
	t.Helper()
	return both(t, start{at: 16, pc: 16, vector: 40, words: encode(t, i)})
}

// ops returns the operations of a shape.
func ops(shape int) (l []int) {
	for op := range 100 {
		if isa.Shape(op) == shape {
			l = append(l, op)
		}
	}
	return l
}

// unmade returns CPUs that New did not return, by their kinds.
func unmade(t *testing.T) map[string]*CPU {
	c, _ := both(t, start{input: "hidden", words: encode(t, isa.Inst{Op: isa.ADDI, Rd: 1, Imm: 7}), vector: 12})
	byValue := *c
	return map[string]*CPU{"nil": nil, "zero": {}, "new": new(CPU), "copied by value": &byValue}
}

func checkZero(t *testing.T, kind string, c *CPU) {
	t.Helper()
	for _, n := range append(counts, 0, 1, 2, 31) {
		if v := c.Reg(n); v != 0 {
			t.Errorf("%s: Reg(%d) = %d", kind, n, v)
		}
	}
	if v := c.PC(); v != 0 {
		t.Errorf("%s: PC() = %d", kind, v)
	}
	if cause, epc, tval := c.Trap(); cause != 0 || epc != 0 || tval != 0 {
		t.Errorf("%s: Trap() = %d, %d, %d", kind, cause, epc, tval)
	}
	if v := c.Vector(); v != 0 {
		t.Errorf("%s: Vector() = %d", kind, v)
	}
	if m, p := c.Memory(), c.Port(); m != nil || p != nil {
		t.Errorf("%s: Memory() = %p, Port() = %p", kind, m, p)
	}
}

func TestP501NotMade(t *testing.T) {
	for kind, c := range unmade(t) {
		checkZero(t, kind, c)
		for _, n := range append(counts, 0, 1, 2, 3, 100) {
			c.SetReg(n, 5)
			c.SetVector(9)
			if n > 1000 {
				continue // nothing runs, but if it did it would not end
			}
			if c.Step() {
				t.Fatalf("%s: Step() = true", kind)
			}
			if k := c.Run(n); k != 0 {
				t.Fatalf("%s: Run(%d) = %d", kind, n, k)
			}
		}
		if k := c.Run(math.MaxInt); k != 0 {
			t.Errorf("%s: Run(MaxInt) = %d", kind, k)
		}
		checkZero(t, kind, c)
	}
}

// What is asked of a CPU that was copied by value leaves the one that New returned, its memory
// and its port as they are.
func TestP501NotMadeChangesNothing(t *testing.T) {
	program := encode(t,
		isa.Inst{Op: isa.ADDI, Rd: 1, Imm: -256},
		isa.Inst{Op: isa.SW, Rs1: 1, Rs2: 2},
		isa.Inst{Op: isa.LW, Rd: 3, Rs1: 1, Imm: 4},
		isa.Inst{Op: isa.SW, Rs2: 2, Imm: 40},
		isa.Inst{Op: isa.ECALL})
	c, o := both(t, start{input: "hi", words: program})
	byValue := *c
	byValue.SetReg(1, 9)
	byValue.SetVector(9)
	byValue.Step()
	byValue.Run(5)
	same(t, c, o)
	checkSteps(t, c, o, 5)
}

// A CPU has the calls that the chapter lists, and no other: each of them, on a nil CPU and on
// one that New did not return, answers zero values.
func TestP501Calls(t *testing.T) {
	want := map[string]bool{"Step": true, "Run": true, "Reg": true, "SetReg": true, "PC": true, "Trap": true,
		"SetVector": true, "Vector": true, "Memory": true, "Port": true}
	for kind, c := range unmade(t) {
		v := reflect.ValueOf(c)
		if v.NumMethod() != len(want) {
			t.Errorf("%d calls, want %d", v.NumMethod(), len(want))
		}
		for k := range v.NumMethod() {
			name, call := v.Type().Method(k).Name, v.Method(k)
			if !want[name] {
				t.Errorf("%s is no call of the chapter", name)
			}
			var args []reflect.Value
			for n := range call.Type().NumIn() {
				args = append(args, reflect.Zero(call.Type().In(n)))
			}
			for _, r := range call.Call(args) {
				if !r.IsZero() {
					t.Errorf("%s: %s answers %v", kind, name, r)
				}
			}
		}
	}
}

func TestP501TwoMachinesShareNothing(t *testing.T) {
	program := encode(t,
		isa.Inst{Op: isa.ADDI, Rd: 1, Imm: -256},
		isa.Inst{Op: isa.LW, Rd: 2, Rs1: 1, Imm: 4},
		isa.Inst{Op: isa.SW, Rs1: 1, Rs2: 2},
		isa.Inst{Op: isa.SW, Rs2: 2, Imm: 40},
		isa.Inst{Op: isa.SW, Rs1: 1, Rs2: 2, Imm: 24},
		isa.Inst{Op: isa.ECALL},
	)
	s := start{input: "hi", words: program}
	a, o := both(t, s)
	b, q := both(t, s)
	checkSteps(t, a, o, 7)
	same(t, b, q)
	setReg(b, q, 9, 77)
	setVector(b, q, 4)
	same(t, a, o)
	checkSteps(t, b, q, 3)
	same(t, a, o)
	checkSteps(t, b, q, 10)
	same(t, a, o)
}

// Two machines of one memory and one port share these, and nothing else.
func TestP501TwoMachinesOfOneMemory(t *testing.T) {
	program := encode(t,
		isa.Inst{Op: isa.ADDI, Rd: 1, Imm: -256},
		isa.Inst{Op: isa.LW, Rd: 2, Rs1: 1, Imm: 4},
		isa.Inst{Op: isa.SW, Rs1: 1, Rs2: 2},
		isa.Inst{Op: isa.LW, Rd: 3, Imm: 40},
		isa.Inst{Op: isa.SW, Rs2: 2, Imm: 40},
		isa.Inst{Op: isa.SW, Rs1: 1, Rs2: 2, Imm: 8},
	)
	m, p := mustMemory(t, 64, program...), mustPort(t, "hi")
	a, b := mustNew(t, m, p, 0), mustNew(t, m, p, 0)
	if n := a.Run(5); n != 5 {
		t.Fatalf("Run(5) = %d", n)
	}
	if b.PC() != 0 || b.Reg(1) != 0 || b.Reg(2) != 0 {
		t.Fatalf("PC %d and registers %d, %d of the other machine", b.PC(), b.Reg(1), b.Reg(2))
	}
	b.Run(5)
	if a.Reg(2) != 'h' || b.Reg(2) != 'i' || a.Reg(3) != 0 || b.Reg(3) != 'h' || string(p.Output()) != "hi" {
		t.Fatalf("registers %d, %d, %d, %d, output %q", a.Reg(2), b.Reg(2), a.Reg(3), b.Reg(3), p.Output())
	}
	if !b.Step() || a.Step() || b.Step() || a.Run(9) != 0 || a.PC() != 20 || b.PC() != 24 {
		t.Fatalf("PCs %d and %d after the halt", a.PC(), b.PC())
	}
}

// The same calls on machines that begin alike answer alike.
func TestP501Repeatable(t *testing.T) {
	for seed := range uint32(50) {
		a, o := wild(t, seed)
		b, _ := wild(t, seed)
		if n, k, want := a.Run(200), b.Run(200), o.run(200); n != want || k != want {
			t.Fatalf("seed %d: Run(200) = %d, then %d, want %d", seed, n, k, want)
		}
		same(t, a, o)
		same(t, b, o)
	}
}

func TestP502New(t *testing.T) {
	for _, size := range []int{4, 8, 64, api.MaxMemory} {
		for _, pc := range edges {
			m, p := mustMemory(t, size), mustPort(t, "hi")
			c := mustNew(t, m, p, pc)
			if c.Memory() != m || c.Port() != p {
				t.Fatalf("Memory() = %p, Port() = %p, want %p, %p", c.Memory(), c.Port(), m, p)
			}
			same(t, c, &model{pc: int64(pc), bytes: make([]byte, size), in: []byte("hi")})
		}
	}
}

func TestP502NewRefuses(t *testing.T) {
	m, p := mustMemory(t, 8), mustPort(t, "")
	byValue := *m
	for kind, bad := range map[string]*memory.Memory{"nil": nil, "zero": {}, "new": new(memory.Memory), "copied by value": &byValue} {
		for _, console := range []*port.Port{p, nil, new(port.Port)} {
			if c, err := New(bad, console, 4); c != nil || err != api.ErrArg {
				t.Errorf("New of a %s memory = %p, %d", kind, c, err)
			}
		}
	}
	if c, err := New(m, nil, 4); c != nil || err != api.ErrArg {
		t.Errorf("New of a nil port = %p, %d", c, err)
	}
}

func TestP502NewOfAClone(t *testing.T) {
	m := mustMemory(t, 8, encode(t, isa.Inst{Op: isa.ADDI, Rd: 1, Imm: 7})...).Clone()
	c := mustNew(t, m, mustPort(t, ""), 0)
	if c.Memory() != m || !c.Step() || c.Reg(1) != 7 {
		t.Errorf("Memory() = %p, want %p; register 1 is %d", c.Memory(), m, c.Reg(1))
	}
}

// A port that no constructor returned does nothing: it gives 0, takes what is written to it, and never halts.
func TestP502NewOfAPortNotMade(t *testing.T) {
	made := mustPort(t, "hidden")
	byValue := *made
	for kind, p := range map[string]*port.Port{"zero": {}, "copied by value": &byValue} {
		m := mustMemory(t, 64, encode(t,
			isa.Inst{Op: isa.ADDI, Rd: 1, Imm: -256},
			isa.Inst{Op: isa.ADDI, Rd: 2, Imm: 9},
			isa.Inst{Op: isa.LW, Rd: 2, Rs1: 1, Imm: 4},
			isa.Inst{Op: isa.SW, Rs1: 1, Rs2: 1},
			isa.Inst{Op: isa.SW, Rs1: 1, Rs2: 1, Imm: 8},
			isa.Inst{Op: isa.JAL, Imm: -12},
		)...)
		c := mustNew(t, m, p, 0)
		if c.Port() != p {
			t.Errorf("%s: Port() = %p, want %p", kind, c.Port(), p)
		}
		if n := c.Run(102); n != 102 || c.PC() != 8 || c.Reg(2) != 0 {
			t.Errorf("%s: Run(102) = %d, PC %d, register 2 %d", kind, n, c.PC(), c.Reg(2))
		}
		if cause, epc, tval := c.Trap(); cause != 0 || epc != 0 || tval != 0 {
			t.Errorf("%s: Trap() = %d, %d, %d", kind, cause, epc, tval)
		}
		if _, halted := p.Halted(); halted || len(p.Output()) != 0 {
			t.Errorf("%s: the port is halted or has output", kind)
		}
	}
	if made.Left() != 6 {
		t.Errorf("%d bytes are left", made.Left())
	}
}

func TestP502Reg(t *testing.T) {
	c := mustNew(t, mustMemory(t, 4), mustPort(t, ""), 0)
	o := &model{bytes: make([]byte, 4)}
	for n := range 32 {
		for _, v := range edges {
			setReg(c, o, n, v)
			same(t, c, o)
		}
		setReg(c, o, n, uint32(n)+100)
	}
	same(t, c, o)
	if c.Reg(0) != 0 || c.Reg(1) != 101 || c.Reg(31) != 131 {
		t.Errorf("registers 0, 1 and 31 are %d, %d, %d", c.Reg(0), c.Reg(1), c.Reg(31))
	}
	for _, n := range counts {
		c.SetReg(n, 7)
		same(t, c, o)
		if v := c.Reg(n); v != 0 {
			t.Errorf("Reg(%d) = %d", n, v)
		}
	}
}

func TestP502Vector(t *testing.T) {
	c, o := one(t, isa.Inst{Op: isa.ECALL})
	for _, v := range edges {
		c.SetVector(v)
		if c.Vector() != v {
			t.Errorf("Vector() after SetVector(%#x) = %#x", v, c.Vector())
		}
		o.vector = int64(v)
		same(t, c, o)
	}
	// Wherever the vector lies, a trap continues there, and there may be the next one.
	for _, v := range edges {
		c, o := one(t, isa.Inst{Op: isa.ECALL})
		setVector(c, o, v)
		checkStep(t, c, o)
		if c.PC() != v {
			t.Errorf("PC after a trap is %#x, the vector %#x", c.PC(), v)
		}
		checkSteps(t, c, o, 3)
	}
}

// What is done to the memory and the port is done to those that were given, and the other way round.
func TestP502MemoryAndPortAreUsed(t *testing.T) {
	m, p := mustMemory(t, 64, encode(t,
		isa.Inst{Op: isa.ADDI, Rd: 1, Imm: -256},
		isa.Inst{Op: isa.LW, Rd: 2, Rs1: 1, Imm: 4},
		isa.Inst{Op: isa.SW, Rs2: 2, Imm: 40},
		isa.Inst{Op: isa.SW, Rs1: 1, Rs2: 2},
	)...), mustPort(t, "abc")
	c := mustNew(t, m, p, 0)
	p.In()
	p.Out('x')
	c.Run(4)
	if v, _ := m.Read(40, 4); v != 'b' || string(p.Output()) != "xb" || p.Left() != 1 {
		t.Errorf("word 40 is %d, the output %q, %d bytes are left", v, p.Output(), p.Left())
	}
	m.Write(16, 4, encode(t, isa.Inst{Op: isa.ADDI, Rd: 5, Imm: 11})[0])
	if !c.Step() || c.Reg(5) != 11 {
		t.Errorf("register 5 is %d", c.Reg(5))
	}
	p.Halt(3)
	if c.Step() || c.PC() != 20 {
		t.Errorf("a step is executed though the port is halted: PC %d", c.PC())
	}
	if c.Memory() != m || c.Port() != p {
		t.Errorf("Memory() = %p, Port() = %p, want %p, %p", c.Memory(), c.Port(), m, p)
	}
}

func TestP502Examples(t *testing.T) {
	c := mustNew(t, mustMemory(t, 8, encode(t, isa.Inst{Op: isa.ADDI, Rd: 1, Imm: 7})...), mustPort(t, ""), 0)
	if !c.Step() || c.Reg(1) != 7 || c.PC() != 4 {
		t.Errorf("register 1 is %d, PC %d", c.Reg(1), c.PC())
	}
	c = mustNew(t, mustMemory(t, 64, encode(t, isa.Inst{Op: isa.LW, Rd: 1, Imm: 2})...), mustPort(t, ""), 0)
	c.SetVector(32)
	c.SetReg(1, 5)
	if !c.Step() || c.PC() != 32 || c.Reg(1) != 5 {
		t.Errorf("PC %d, register 1 is %d", c.PC(), c.Reg(1))
	}
	if cause, epc, tval := c.Trap(); cause != LoadAlign || epc != 0 || tval != 2 {
		t.Errorf("Trap() = %d, %d, %d", cause, epc, tval)
	}
	p := mustPort(t, "Z")
	c = mustNew(t, mustMemory(t, 64, encode(t,
		isa.Inst{Op: isa.LUI, Rd: 1, Imm: 1<<20 - 1},
		isa.Inst{Op: isa.ADDI, Rd: 1, Rs1: 1, Imm: 2047},
		isa.Inst{Op: isa.ADDI, Rd: 1, Rs1: 1, Imm: 0x701},
		isa.Inst{Op: isa.LW, Rd: 2, Rs1: 1, Imm: 4},
		isa.Inst{Op: isa.ADDI, Rd: 2, Rs1: 2, Imm: 7},
		isa.Inst{Op: isa.SW, Rs1: 1, Rs2: 2},
		isa.Inst{Op: isa.SW, Rs1: 1, Rs2: 2, Imm: 8},
	)...), p, 0)
	if n := c.Run(100); n != 7 || string(p.Output()) != "a" {
		t.Errorf("Run(100) = %d, output %q", n, p.Output())
	}
}

func TestP502Causes(t *testing.T) {
	got := []int{FetchAlign, FetchFault, Illegal, Break, LoadAlign, LoadFault, StoreAlign, StoreFault, Call}
	for k, want := range []int{0, 1, 2, 3, 4, 5, 6, 7, 11} {
		if got[k] != want {
			t.Errorf("cause %d is %d, want %d", k, got[k], want)
		}
	}
}

// regs: triples of Rd, Rs1 and Rs2, of which some are alike, and some register 0.
var regs = [][3]int{{1, 2, 3}, {2, 2, 3}, {3, 2, 3}, {2, 2, 2}, {0, 2, 3}, {1, 0, 3}, {1, 2, 0}, {1, 0, 0}, {0, 0, 0}, {31, 30, 29}, {16, 8, 24}}

func TestP502Upper(t *testing.T) {
	for _, op := range ops(isa.Upper) {
		for _, imm := range []int{0, 1, 2, 0x12345, 1<<19 - 1, 1 << 19, 1<<20 - 2, 1<<20 - 1} {
			for rd := range 32 {
				c, o := one(t, isa.Inst{Op: op, Rd: rd, Imm: imm})
				checkStep(t, c, o)
			}
			// Far from address 0, where the bits of PC and of Imm meet.
			for _, at := range []uint32{4096, 4100, 8188, 12284, 16380} {
				c, o := both(t, start{size: 16384, at: at, pc: at, words: encode(t, isa.Inst{Op: op, Rd: 1, Imm: imm})})
				checkStep(t, c, o)
			}
		}
	}
	c, o := one(t, isa.Inst{Op: isa.LUI, Rd: 1, Imm: 0xfffff})
	checkStep(t, c, o)
	if c.Reg(1) != 0xfffff000 || c.PC() != 20 {
		t.Errorf("LUI: %#x, PC %d", c.Reg(1), c.PC())
	}
	c, o = one(t, isa.Inst{Op: isa.AUIPC, Rd: 1, Imm: 0xfffff})
	checkStep(t, c, o)
	if c.Reg(1) != 0xfffff010 || c.PC() != 20 {
		t.Errorf("AUIPC: %#x, PC %d", c.Reg(1), c.PC())
	}
}

func TestP502Jump(t *testing.T) {
	// The jump stands at the memory's beginning, within it, and at its end.
	for _, at := range []uint32{0, 4, 16, 60} {
		for _, imm := range []int{-1 << 20, 2 - 1<<20, -4096, -62, -60, -58, -20, -16, -8, -6, -4, -2, 0, 2, 4, 6, 8, 44, 46, 48, 4096, 1<<20 - 4, 1<<20 - 2} {
			for _, rd := range []int{0, 1, 31} {
				c, o := both(t, start{at: at, pc: at, vector: 40, words: encode(t, isa.Inst{Op: isa.JAL, Rd: rd, Imm: imm})})
				checkStep(t, c, o)
				if c.PC() != at+uint32(imm) || rd > 0 && c.Reg(rd) != at+4 {
					t.Errorf("JAL at %d by %d: PC %#x, register %d is %#x", at, imm, c.PC(), rd, c.Reg(rd))
				}
				checkSteps(t, c, o, 3)
			}
		}
	}
}

func TestP502JumpRegister(t *testing.T) {
	for _, a := range edges {
		for _, imm := range imms {
			for _, r := range [][2]int{{1, 2}, {2, 2}, {0, 2}, {1, 0}, {0, 0}, {31, 31}} {
				c, o := one(t, isa.Inst{Op: isa.JALR, Rd: r[0], Rs1: r[1], Imm: imm})
				setReg(c, o, r[1], a)
				checkStep(t, c, o)
				checkStep(t, c, o)
			}
		}
	}
	c, o := one(t, isa.Inst{Op: isa.JALR, Rd: 2, Rs1: 2, Imm: 5})
	setReg(c, o, 2, 1<<32-2)
	checkStep(t, c, o)
	if c.PC() != 2 || c.Reg(2) != 20 {
		t.Errorf("JALR: PC %d, register 2 is %d", c.PC(), c.Reg(2))
	}
}

func TestP502Branch(t *testing.T) {
	for _, op := range ops(isa.Branch) {
		for _, a := range edges {
			for _, b := range edges {
				c, o := one(t, isa.Inst{Op: op, Rs1: 2, Rs2: 3, Imm: 24})
				setReg(c, o, 2, a)
				setReg(c, o, 3, b)
				checkStep(t, c, o)
			}
		}
	}
}

func TestP502BranchFar(t *testing.T) {
	for _, op := range ops(isa.Branch) {
		for _, at := range []uint32{0, 16, 60} {
			for _, imm := range []int{-4096, -4094, -64, -62, -18, -16, -4, -2, 0, 2, 4, 6, 8, 46, 48, 4092, 4094} {
				for _, r := range [][2]int{{2, 3}, {3, 2}, {2, 2}, {0, 2}, {2, 0}, {0, 0}} {
					c, o := both(t, start{at: at, pc: at, vector: 40, words: encode(t, isa.Inst{Op: op, Rs1: r[0], Rs2: r[1], Imm: imm})})
					setReg(c, o, 2, 5)
					setReg(c, o, 3, 1<<32-5)
					checkStep(t, c, o)
					checkStep(t, c, o)
				}
			}
		}
	}
}

func TestP502Immediate(t *testing.T) {
	for _, op := range ops(isa.Imm) {
		if op < isa.ADDI {
			continue // the loads and JALR have tests of their own
		}
		for _, a := range edges {
			for _, imm := range imms {
				for _, r := range regs[:7] {
					c, o := one(t, isa.Inst{Op: op, Rd: r[0], Rs1: r[1], Imm: imm})
					setReg(c, o, r[1], a)
					checkStep(t, c, o)
				}
			}
		}
	}
}

func TestP502Small(t *testing.T) {
	for _, op := range ops(isa.Small) {
		for _, a := range edges {
			for by := range 32 {
				for _, r := range regs[:7] {
					c, o := one(t, isa.Inst{Op: op, Rd: r[0], Rs1: r[1], Imm: by})
					setReg(c, o, r[1], a)
					checkStep(t, c, o)
				}
			}
		}
	}
}

func TestP502Register(t *testing.T) {
	for _, op := range ops(isa.Reg) {
		for _, a := range edges {
			for _, b := range edges {
				c, o := one(t, isa.Inst{Op: op, Rd: 1, Rs1: 2, Rs2: 3})
				setReg(c, o, 2, a)
				setReg(c, o, 3, b)
				checkStep(t, c, o)
			}
		}
		for _, r := range regs {
			for _, a := range []uint32{0, 5, 1 << 31, 1<<32 - 3} {
				c, o := one(t, isa.Inst{Op: op, Rd: r[0], Rs1: r[1], Rs2: r[2]})
				setReg(c, o, r[1], a)
				checkStep(t, c, o)
			}
		}
	}
}

// What the instructions make of some operands, by numbers that are written out.
func TestP502Results(t *testing.T) {
	const top = 1 << 31
	for _, x := range []struct {
		op         int
		a, b, want uint32
	}{
		{isa.ADD, 1<<32 - 1, 2, 1}, {isa.SUB, 1, 2, 1<<32 - 1},
		{isa.SLL, 1, 33, 2}, {isa.SLL, 3, 31, top}, {isa.SLL, 5, 32, 5}, {isa.SRL, top, 31, 1}, {isa.SRL, top, 32, top},
		{isa.SRA, top, 33, 0xc0000000}, {isa.SRA, top, 31, 1<<32 - 1}, {isa.SRA, top - 1, 30, 1}, {isa.SRA, 1<<32 - 8, 0xffffffe1, 1<<32 - 4},
		{isa.SLT, top, 0, 1}, {isa.SLT, 0, top, 0}, {isa.SLT, 1, 1, 0}, {isa.SLTU, top, 0, 0}, {isa.SLTU, 0, top, 1}, {isa.SLTU, 1, 1, 0},
		{isa.XOR, 0x0ff0, 0x3333, 0x3cc3}, {isa.OR, 0x0ff0, 0x3333, 0x3ff3}, {isa.AND, 0x0ff0, 0x3333, 0x0330},
		{isa.MUL, 1<<32 - 1, 1<<32 - 1, 1}, {isa.MUL, 65536, 65536, 0}, {isa.MULH, top, top, 1 << 30}, {isa.MULH, 1<<32 - 1, 1, 1<<32 - 1},
		{isa.MULHSU, 1<<32 - 1, 1<<32 - 1, 1<<32 - 1}, {isa.MULHSU, 1, 1<<32 - 1, 0}, {isa.MULHU, 1<<32 - 1, 1<<32 - 1, 1<<32 - 2},
		{isa.DIV, 1<<32 - 7, 2, 1<<32 - 3}, {isa.REM, 1<<32 - 7, 2, 1<<32 - 1}, {isa.DIV, 7, 0, 1<<32 - 1}, {isa.REM, 7, 0, 7},
		{isa.DIV, top, 1<<32 - 1, top}, {isa.REM, top, 1<<32 - 1, 0},
		{isa.DIVU, 1<<32 - 7, 2, top - 4}, {isa.REMU, 1<<32 - 7, 2, 1}, {isa.DIVU, 7, 0, 1<<32 - 1}, {isa.REMU, 7, 0, 7}, {isa.DIVU, top, 1<<32 - 1, 0},
	} {
		c, o := one(t, isa.Inst{Op: x.op, Rd: 1, Rs1: 2, Rs2: 3})
		setReg(c, o, 2, x.a)
		setReg(c, o, 3, x.b)
		checkStep(t, c, o)
		if c.Reg(1) != x.want {
			t.Errorf("%s of %#x and %#x = %#x, want %#x", isa.Name(x.op), x.a, x.b, c.Reg(1), x.want)
		}
	}
	for _, x := range []struct {
		op   int
		a    uint32
		imm  int
		want uint32
	}{
		{isa.ADDI, 1, -2, 1<<32 - 1}, {isa.SLTI, 1<<32 - 2, -1, 1}, {isa.SLTI, 0, -1, 0}, {isa.SLTIU, 0, -1, 1}, {isa.SLTIU, 1<<32 - 1, -1, 0}, {isa.SLTIU, top, 5, 0},
		{isa.XORI, 5, -1, 1<<32 - 6}, {isa.ORI, 5, -2048, 1<<32 - 2043}, {isa.ANDI, 0x12345678, -2048, 0x12345000}, {isa.ANDI, 0x12345678, 2047, 0x678},
		{isa.SLLI, 3, 31, top}, {isa.SRLI, top, 31, 1}, {isa.SRAI, top, 31, 1<<32 - 1}, {isa.SRAI, top, 0, top},
	} {
		c, o := one(t, isa.Inst{Op: x.op, Rd: 1, Rs1: 2, Imm: x.imm})
		setReg(c, o, 2, x.a)
		checkStep(t, c, o)
		if c.Reg(1) != x.want {
			t.Errorf("%s of %#x and %d = %#x, want %#x", isa.Name(x.op), x.a, x.imm, c.Reg(1), x.want)
		}
	}
}

func TestP502Fence(t *testing.T) {
	for _, imm := range imms {
		c, o := one(t, isa.Inst{Op: isa.FENCE, Imm: imm})
		checkStep(t, c, o)
		if cause, _, _ := c.Trap(); cause != FetchFault || c.PC() != 20 {
			t.Errorf("FENCE %d: cause %d, PC %d", imm, cause, c.PC())
		}
	}
}

// accesses returns the operations that load and those that store.
func accesses() []int {
	return []int{isa.LB, isa.LH, isa.LW, isa.LBU, isa.LHU, isa.SB, isa.SH, isa.SW}
}

// access returns a machine whose next instruction loads or stores at an address, and its model.
func access(t *testing.T, s start, op int, at uint32, imm int, v uint32) (*CPU, *model) {
	t.Helper()
	i := isa.Inst{Op: op, Rd: 3, Rs1: 2, Imm: imm}
	if isa.Shape(op) == isa.Store {
		i = isa.Inst{Op: op, Rs1: 2, Rs2: 3, Imm: imm}
	}
	s.words = encode(t, i)
	c, o := both(t, s)
	setReg(c, o, 2, at-uint32(imm))
	setReg(c, o, 3, v)
	return c, o
}

func TestP502LoadAndStore(t *testing.T) {
	hole := []memory.Hole{{From: 24, To: 28}, {From: 33, To: 34}, {From: 43, To: 43}, {From: 62, To: 1<<32 - 1}}
	for _, s := range []start{{vector: 40}, {vector: 40, holes: hole}, {size: 4, vector: 4}, {vector: 2, holes: []memory.Hole{{From: 4, To: 64}}}} {
		for _, op := range accesses() {
			for at := range uint32(80) {
				for _, v := range []uint32{0, 0x7f, 0x80, 0xfedcba98, 1<<32 - 1} {
					c, o := access(t, s, op, at, 0, v)
					checkStep(t, c, o)
				}
			}
			for _, at := range edges {
				for _, imm := range imms {
					c, o := access(t, s, op, at, imm, 0x8899aabb)
					checkStep(t, c, o)
				}
			}
		}
	}
}

// Rd may be Rs1 and Rs2 may be Rs1, and either may be register 0.
func TestP502LoadAndStoreRegisters(t *testing.T) {
	for _, op := range accesses() {
		for _, r := range regs {
			i := isa.Inst{Op: op, Rd: r[0], Rs1: r[1], Imm: 4}
			if isa.Shape(op) == isa.Store {
				i = isa.Inst{Op: op, Rs1: r[1], Rs2: r[2], Imm: 4}
			}
			c, o := one(t, i)
			setReg(c, o, r[1], 44)
			checkStep(t, c, o)
			if cause, _, _ := c.Trap(); cause != FetchFault {
				t.Errorf("%+v: cause %d", i, cause)
			}
		}
	}
}

func TestP502LoadSigns(t *testing.T) {
	for _, x := range []struct {
		op         int
		word, want uint32
	}{
		{isa.LB, 0x80, 0xffffff80}, {isa.LB, 0x12347f, 0x7f}, {isa.LBU, 0x123480, 0x80}, {isa.LBU, 0xff, 0xff},
		{isa.LH, 0x8000, 0xffff8000}, {isa.LH, 0x127fff, 0x7fff}, {isa.LHU, 0x128000, 0x8000}, {isa.LHU, 0xffff, 0xffff},
		{isa.LW, 0x80000000, 0x80000000}, {isa.LW, 0x12345678, 0x12345678},
	} {
		m := mustMemory(t, 16, append(encode(t, isa.Inst{Op: x.op, Rd: 1, Imm: 8}), 0, x.word)...)
		c := mustNew(t, m, mustPort(t, ""), 0)
		if c.Step(); c.Reg(1) != x.want || c.PC() != 4 {
			t.Errorf("%s of %#x = %#x, want %#x; PC %d", isa.Name(x.op), x.word, c.Reg(1), x.want, c.PC())
		}
	}
}

// Each address from a little below the port on, with each operation, and what follows if more of them come.
func TestP502Port(t *testing.T) {
	for _, input := range []string{"", "hi"} {
		for _, op := range accesses() {
			for at := uint32(api.Port - 8); at != 4; at++ { // beyond the last address are the first
				for _, v := range []uint32{0, 40, 0x179, 1<<32 - 1} {
					c, o := access(t, start{input: input, vector: 48}, op, at, 0, v)
					checkStep(t, c, o)
					checkSteps(t, c, o, 2)
				}
			}
		}
	}
}

func TestP502PortLoads(t *testing.T) {
	misaligned := encode(t, isa.Inst{Op: isa.LW, Rd: 9, Rs1: 8}) // at address 20
	for place, want := range []uint32{0, 'h', 0, LoadAlign, 20, 0x1234567, 8, 0} {
		c, o := both(t, start{input: "hi", at: 20, pc: 20, vector: 8, words: misaligned})
		c.Memory().Write(8, 4, encode(t, isa.Inst{Op: isa.LW, Rd: 3, Rs1: 2, Imm: 4 * place})[0])
		o.bytes = c.Memory().Bytes(0, 64)
		setReg(c, o, 2, api.Port)
		setReg(c, o, 8, 0x1234567)
		checkSteps(t, c, o, 2)
		if c.Reg(3) != want || c.PC() != 12 {
			t.Errorf("Port + %d loads %#x, want %#x; PC %d", 4*place, c.Reg(3), want, c.PC())
		}
	}
}

func TestP502PortStores(t *testing.T) {
	for place := range 8 {
		for _, v := range []uint32{0, 1, 36, 37, 0x179, 1<<31 + 5, 1<<32 - 1} {
			c, o := access(t, start{input: "hi", vector: 48}, isa.SW, api.Port+4*uint32(place), 0, v)
			checkStep(t, c, o)
			_, epc, _ := c.Trap()
			code, halted := c.Port().Halted()
			if place == 0 && string(c.Port().Output()) != string([]byte{byte(v)}) ||
				place == 2 && (code != v || !halted) ||
				place == 4 && epc != v ||
				place == 6 && c.Vector() != v ||
				place == 7 && c.PC() != far ||
				place != 7 && c.PC() != 4 {
				t.Errorf("Port + %d stores %#x: PC %d", 4*place, v, c.PC())
			}
		}
	}
}

// In takes a byte even where register 0 receives it, and none where the load is refused.
func TestP502PortIn(t *testing.T) {
	c, o := both(t, start{input: "abcd", vector: 20, words: encode(t,
		isa.Inst{Op: isa.LW, Rs1: 2, Imm: 4},
		isa.Inst{Op: isa.LW, Rd: 1, Rs1: 2, Imm: 4},
		isa.Inst{Op: isa.LBU, Rd: 1, Rs1: 2, Imm: 4},
		isa.Inst{Op: isa.ECALL},
		isa.Inst{Op: isa.ECALL},
		isa.Inst{Op: isa.LHU, Rd: 1, Rs1: 2, Imm: 4},
		isa.Inst{Op: isa.ECALL},
	)})
	setReg(c, o, 2, api.Port)
	checkSteps(t, c, o, 4)
	if c.Port().Left() != 2 || c.Reg(1) != 'b' {
		t.Errorf("%d bytes are left, register 1 is %d", c.Port().Left(), c.Reg(1))
	}
}

// A handler of traps that looks where it came from, sets epc behind it, and goes back there.
func TestP502Return(t *testing.T) {
	nop := isa.Inst{Op: isa.ADDI}
	c, o := both(t, start{vector: 32, words: encode(t,
		isa.Inst{Op: isa.ECALL},
		isa.Inst{Op: isa.EBREAK},
		isa.Inst{Op: isa.LW, Rd: 9, Imm: 3},
		isa.Inst{Op: isa.SW, Rs1: 2, Rs2: 2, Imm: 8},
		nop, nop, nop, nop,
		isa.Inst{Op: isa.LW, Rd: 10, Rs1: 2, Imm: 16},
		isa.Inst{Op: isa.ADDI, Rd: 10, Rs1: 10, Imm: 4},
		isa.Inst{Op: isa.SW, Rs1: 2, Rs2: 10, Imm: 16},
		isa.Inst{Op: isa.SW, Rs1: 2, Rs2: 10, Imm: 28},
	)})
	setReg(c, o, 2, api.Port)
	for !o.halted {
		checkStep(t, c, o)
	}
	checkStep(t, c, o)
	if code, halted := c.Port().Halted(); code != api.Port || !halted || c.PC() != 16 {
		t.Errorf("halted %#x, %v at %d", code, halted, c.PC())
	}
}

// The instruction that is executed is the one that stands there now.
func TestP502StoreChangesTheNext(t *testing.T) {
	next := encode(t, isa.Inst{Op: isa.ADDI, Rd: 1, Rs1: 1, Imm: 100})[0]
	c, o := both(t, start{vector: 40, words: encode(t,
		isa.Inst{Op: isa.SW, Rs1: 0, Rs2: 2, Imm: 4},
		isa.Inst{Op: isa.ADDI, Rd: 1, Rs1: 1, Imm: 1},
		isa.Inst{Op: isa.SB, Rs1: 0, Rs2: 3, Imm: 4},
		isa.Inst{Op: isa.JAL, Imm: -8},
	)})
	setReg(c, o, 1, 0)
	setReg(c, o, 2, next)
	setReg(c, o, 3, 0) // no instruction's lowest byte
	checkSteps(t, c, o, 2)
	if c.Reg(1) != 100 {
		t.Errorf("register 1 is %d", c.Reg(1))
	}
	checkSteps(t, c, o, 3)
	if cause, epc, tval := c.Trap(); cause != Illegal || epc != 4 || tval != next&^0xff {
		t.Errorf("Trap() = %d, %d, %#x", cause, epc, tval)
	}
}

// An instruction in a loop is executed anew each time, whatever it was before.
func TestP502StoreChangesALoop(t *testing.T) {
	c, o := both(t, start{vector: 40, words: encode(t,
		isa.Inst{Op: isa.ADDI, Rd: 1, Rs1: 1, Imm: 1},
		isa.Inst{Op: isa.LW, Rd: 4},
		isa.Inst{Op: isa.ADD, Rd: 4, Rs1: 4, Rs2: 3},
		isa.Inst{Op: isa.SW, Rs2: 4},
		isa.Inst{Op: isa.JAL, Imm: -16},
	)})
	setReg(c, o, 1, 0)
	setReg(c, o, 3, 1<<20) // 1 more in Imm
	checkSteps(t, c, o, 5*40)
	if want := uint32(40 * 41 / 2); c.Reg(1) != want {
		t.Errorf("register 1 is %d, want %d", c.Reg(1), want)
	}
}

func TestP502Halted(t *testing.T) {
	c, o := one(t, isa.Inst{Op: isa.ADDI, Rd: 1, Imm: 7})
	c.Port().Halt(5)
	o.code, o.halted = 5, true
	for _, fuel := range []int{math.MinInt, -1, 0, 1, 2, 1000, api.MaxFuel - 1, api.MaxFuel, api.MaxFuel + 1, math.MaxInt} {
		if n := c.Run(fuel); n != 0 {
			t.Errorf("Run(%d) of a halted machine = %d", fuel, n)
		}
		if c.Step() {
			t.Error("Step() of a halted machine = true")
		}
		same(t, c, o)
	}
	// What does not go on can be looked at and set all the same.
	setReg(c, o, 4, 44)
	setVector(c, o, 12)
	same(t, c, o)
}

// countdown returns a machine that halts with code 9 after 2 * n + 3 steps, and its model.
func countdown(t *testing.T, n uint32) (*CPU, *model) {
	t.Helper()
	c, o := both(t, start{vector: 40, words: encode(t,
		isa.Inst{Op: isa.ADDI, Rd: 1, Rs1: 1, Imm: -1},
		isa.Inst{Op: isa.BNE, Rs1: 1, Imm: -4},
		isa.Inst{Op: isa.ADDI, Rd: 3, Imm: 9},
		isa.Inst{Op: isa.ADDI, Rd: 2, Imm: -256},
		isa.Inst{Op: isa.SW, Rs1: 2, Rs2: 3, Imm: 8},
		isa.Inst{Op: isa.ADDI, Rd: 4, Imm: 44},
	)})
	setReg(c, o, 1, n)
	return c, o
}

func TestP502Run(t *testing.T) {
	const all = 2*10 + 3
	for _, fuel := range []int{math.MinInt, -api.MaxFuel, -2, -1, 0, 1, 2, 3, all - 2, all - 1, all, all + 1, 1000} {
		c, o := countdown(t, 10)
		checkRun(t, c, o, fuel)
		if n := c.Run(0) + c.Run(-1); n != 0 {
			t.Errorf("Run(0) and Run(-1) after Run(%d): %d steps", fuel, n)
		}
		same(t, c, o)
	}
	for _, fuel := range []int{api.MaxFuel - 1, api.MaxFuel, api.MaxFuel + 1, 2 * api.MaxFuel, math.MaxInt} {
		c, o := countdown(t, 10)
		if n, k := c.Run(fuel), o.run(1000); n != all || k != all {
			t.Errorf("Run(%d) = %d, want %d", fuel, n, all)
		}
		same(t, c, o)
		if code, halted := c.Port().Halted(); code != 9 || !halted || c.PC() != 20 || c.Step() {
			t.Errorf("halted %d, %v, PC %d", code, halted, c.PC())
		}
	}
	c, o := countdown(t, 100000)
	checkRun(t, c, o, 150000)
	checkRun(t, c, o, 150000)
}

// A machine that is trapped again and again goes on.
func TestP502RunOfTraps(t *testing.T) {
	for _, vector := range []uint32{2, 64, 1<<32 - 1, api.Port} {
		c, o := both(t, start{pc: vector, vector: vector})
		checkRun(t, c, o, 1000)
	}
}

func TestP503(t *testing.T) {
	for seed := range uint32(100) {
		for _, parts := range [][2]int{{0, 0}, {0, 5}, {5, 0}, {1, 1}, {1, 30}, {30, 1}, {17, 40}, {-1, 8}, {8, -1}, {200, 300}} {
			first, second := max(parts[0], 0), max(parts[1], 0)
			c, o := wild(t, seed)
			d, q := wild(t, seed)
			n := c.Run(parts[0]) + c.Run(parts[1])
			if k := d.Run(first + second); n != k || n != o.run(first+second) || n != q.run(first+second) {
				t.Fatalf("seed %d: Run of %v = %d, of their sum %d", seed, parts, n, k)
			}
			same(t, c, o)
			same(t, d, q)
		}
	}
	for cut := range 30 {
		c, o := countdown(t, 10)
		if n := c.Run(cut) + c.Run(30-cut); n != 23 || o.run(30) != 23 {
			t.Errorf("Run(%d) and Run(%d) = %d", cut, 30-cut, n)
		}
		same(t, c, o)
	}
}

// Run is as many Steps.
func TestP503Steps(t *testing.T) {
	for seed := range uint32(30) {
		c, o := wild(t, seed)
		n := 0
		for n < 100 && c.Step() {
			n++
		}
		if want := o.run(100); n != want {
			t.Fatalf("seed %d: %d steps, want %d", seed, n, want)
		}
		same(t, c, o)
	}
}

// Each operation that has an Rd is executed with register 0 as Rd.
func TestP504(t *testing.T) {
	for op := range isa.REMU + 1 {
		for _, place := range []int{0, 4, 12, 16, 20, 24} {
			i := isa.Inst{Op: op, Rs1: 2, Rs2: 3, Imm: place}
			switch isa.Shape(op) {
			case isa.Upper, isa.Jump:
				i = isa.Inst{Op: op, Imm: 16}
			case isa.Imm, isa.Small:
				i.Rs2 = 0
			case isa.Reg:
				i.Imm = 0
			default:
				continue // these have no Rd
			}
			for _, v := range []uint32{api.Port, 32, 1 << 31} {
				c, o := both(t, start{input: "hi", vector: 40, words: encode(t, i, isa.Inst{Op: isa.ADD, Rd: 5})})
				setReg(c, o, 2, v)
				checkStep(t, c, o)
				if c.Reg(0) != 0 {
					t.Errorf("%+v: register 0 is %#x", i, c.Reg(0))
				}
				checkStep(t, c, o)
			}
		}
	}
	c, o := one(t, isa.Inst{Op: isa.ADD, Rd: 5})
	for _, v := range edges {
		setReg(c, o, 0, v)
		if c.Reg(0) != 0 {
			t.Fatalf("register 0 is %#x after SetReg(0, %#x)", c.Reg(0), v)
		}
	}
	if checkStep(t, c, o); c.Reg(5) != 0 {
		t.Errorf("0 + 0 = %d", c.Reg(5))
	}
}

func TestP505(t *testing.T) {
	holes := []memory.Hole{{From: 24, To: 26}, {From: 47, To: 48}}
	for _, x := range []struct {
		i           isa.Inst
		reg         uint32
		cause, tval uint32
	}{
		{isa.Inst{Op: isa.ECALL}, 7, Call, 0},
		{isa.Inst{Op: isa.EBREAK}, 7, Break, 16},
		// misaligned, and nothing else
		{isa.Inst{Op: isa.LH, Rd: 5, Rs1: 6}, 33, LoadAlign, 33},
		{isa.Inst{Op: isa.LHU, Rd: 5, Rs1: 6, Imm: -1}, 34, LoadAlign, 33},
		{isa.Inst{Op: isa.LW, Rd: 5, Rs1: 6, Imm: 2}, 32, LoadAlign, 34},
		{isa.Inst{Op: isa.SH, Rs2: 5, Rs1: 6}, 33, StoreAlign, 33},
		{isa.Inst{Op: isa.SW, Rs2: 5, Rs1: 6, Imm: 3}, 32, StoreAlign, 35},
		// misaligned and nonexistent, in a hole, or at the port: misaligned comes first
		{isa.Inst{Op: isa.LH, Rd: 5, Rs1: 6}, 65, LoadAlign, 65},
		{isa.Inst{Op: isa.LW, Rd: 5, Rs1: 6}, 62, LoadAlign, 62},
		{isa.Inst{Op: isa.LW, Rd: 5, Rs1: 6}, 26, LoadAlign, 26},
		{isa.Inst{Op: isa.LH, Rd: 5, Rs1: 6}, 23, LoadAlign, 23},
		{isa.Inst{Op: isa.LW, Rd: 5, Rs1: 6}, api.Port + 6, LoadAlign, api.Port + 6},
		{isa.Inst{Op: isa.LH, Rd: 5, Rs1: 6}, api.Port + 5, LoadAlign, api.Port + 5},
		{isa.Inst{Op: isa.LHU, Rd: 5, Rs1: 6}, 1<<32 - 1, LoadAlign, 1<<32 - 1},
		{isa.Inst{Op: isa.SH, Rs2: 5, Rs1: 6}, 65, StoreAlign, 65},
		{isa.Inst{Op: isa.SW, Rs2: 5, Rs1: 6}, 62, StoreAlign, 62},
		{isa.Inst{Op: isa.SW, Rs2: 5, Rs1: 6}, 26, StoreAlign, 26},
		{isa.Inst{Op: isa.SW, Rs2: 5, Rs1: 6}, api.Port + 2, StoreAlign, api.Port + 2},
		{isa.Inst{Op: isa.SH, Rs2: 5, Rs1: 6}, api.Port + 1, StoreAlign, api.Port + 1},
		// nonexistent
		{isa.Inst{Op: isa.LB, Rd: 5, Rs1: 6}, 64, LoadFault, 64},
		{isa.Inst{Op: isa.LBU, Rd: 5, Rs1: 6}, 1 << 31, LoadFault, 1 << 31},
		{isa.Inst{Op: isa.LH, Rd: 5, Rs1: 6}, 64, LoadFault, 64},
		{isa.Inst{Op: isa.LHU, Rd: 5, Rs1: 6, Imm: -2}, 0, LoadFault, 1<<32 - 2},
		{isa.Inst{Op: isa.LW, Rd: 5, Rs1: 6, Imm: 4}, 60, LoadFault, 64},
		{isa.Inst{Op: isa.LW, Rd: 5, Rs1: 6}, api.Port - 4, LoadFault, api.Port - 4},
		{isa.Inst{Op: isa.SB, Rs2: 5, Rs1: 6}, 64, StoreFault, 64},
		{isa.Inst{Op: isa.SH, Rs2: 5, Rs1: 6}, 64, StoreFault, 64},
		{isa.Inst{Op: isa.SW, Rs2: 5, Rs1: 6}, 64, StoreFault, 64},
		{isa.Inst{Op: isa.SW, Rs2: 5, Rs1: 6}, api.Port - 4, StoreFault, api.Port - 4},
		// in a hole, and across its edge
		{isa.Inst{Op: isa.LB, Rd: 5, Rs1: 6}, 24, LoadFault, 24},
		{isa.Inst{Op: isa.LBU, Rd: 5, Rs1: 6}, 25, LoadFault, 25},
		{isa.Inst{Op: isa.LW, Rd: 5, Rs1: 6}, 24, LoadFault, 24},
		{isa.Inst{Op: isa.LH, Rd: 5, Rs1: 6}, 46, LoadFault, 46},
		{isa.Inst{Op: isa.SB, Rs2: 5, Rs1: 6}, 25, StoreFault, 25},
		{isa.Inst{Op: isa.SW, Rs2: 5, Rs1: 6}, 24, StoreFault, 24},
		{isa.Inst{Op: isa.SH, Rs2: 5, Rs1: 6}, 46, StoreFault, 46},
		{isa.Inst{Op: isa.SW, Rs2: 5, Rs1: 6}, 44, StoreFault, 44},
		// at the port: other sizes, and addresses that the table does not list
		{isa.Inst{Op: isa.LB, Rd: 5, Rs1: 6}, api.Port, LoadFault, api.Port},
		{isa.Inst{Op: isa.LBU, Rd: 5, Rs1: 6}, api.Port + 4, LoadFault, api.Port + 4},
		{isa.Inst{Op: isa.LH, Rd: 5, Rs1: 6}, api.Port + 12, LoadFault, api.Port + 12},
		{isa.Inst{Op: isa.LHU, Rd: 5, Rs1: 6}, api.Port + 4, LoadFault, api.Port + 4},
		{isa.Inst{Op: isa.LW, Rd: 5, Rs1: 6}, api.Port + 32, LoadFault, api.Port + 32},
		{isa.Inst{Op: isa.LW, Rd: 5, Rs1: 6}, 1<<32 - 4, LoadFault, 1<<32 - 4},
		{isa.Inst{Op: isa.SB, Rs2: 5, Rs1: 6}, api.Port, StoreFault, api.Port},
		{isa.Inst{Op: isa.SH, Rs2: 5, Rs1: 6}, api.Port + 8, StoreFault, api.Port + 8},
		{isa.Inst{Op: isa.SW, Rs2: 5, Rs1: 6}, api.Port + 32, StoreFault, api.Port + 32},
		{isa.Inst{Op: isa.SW, Rs2: 5, Rs1: 6}, 1<<32 - 4, StoreFault, 1<<32 - 4},
	} {
		c, o := both(t, start{input: "hi", holes: holes, at: 16, pc: 16, vector: 52, words: encode(t, x.i)})
		setReg(c, o, 6, x.reg)
		checkTrap(t, c, o, x.cause, 16, x.tval)
	}
}

// checkTrap has a step executed that shall be a trap, after which all else is as before.
func checkTrap(t *testing.T, c *CPU, o *model, cause, epc, tval uint32) {
	t.Helper()
	before := *o
	if !c.Step() {
		t.Fatal("Step() = false")
	}
	before.trap(int64(cause), int64(epc), int64(tval))
	same(t, c, &before)
}

func TestP505Fetch(t *testing.T) {
	holes := []memory.Hole{{From: 24, To: 26}, {From: 47, To: 48}}
	for _, x := range []struct{ pc, cause uint32 }{
		{1, FetchAlign}, {2, FetchAlign}, {3, FetchAlign}, {62, FetchAlign},
		{64, FetchFault}, {68, FetchFault}, {1 << 31, FetchFault}, {api.MaxMemory, FetchFault},
		{24, FetchFault}, {44, FetchFault},
		{25, FetchAlign}, {26, FetchAlign}, {46, FetchAlign}, {47, FetchAlign}, {65, FetchAlign}, {1<<31 + 2, FetchAlign},
		{api.Port, FetchFault}, {api.Port + 4, FetchFault}, {api.Port + 12, FetchFault}, {api.Port + 28, FetchFault}, {api.Port + 32, FetchFault},
		{api.Port + 2, FetchAlign}, {api.Port + 5, FetchAlign}, {1<<32 - 4, FetchFault}, {1<<32 - 2, FetchAlign}, {1<<32 - 1, FetchAlign},
	} {
		c, o := both(t, start{input: "hi", holes: holes, pc: x.pc, vector: 52})
		checkTrap(t, c, o, x.cause, x.pc, x.pc)
	}
	// Beside a hole, and at the end, there is no trap.
	for _, pc := range []uint32{20, 28, 40, 48, 60} {
		c, o := both(t, start{holes: holes, at: pc, pc: pc, vector: 52, words: encode(t, isa.Inst{Op: isa.ADDI, Rd: 1, Imm: 7})})
		checkStep(t, c, o)
		if c.PC() != pc+4 || c.Reg(1) != 7 {
			t.Errorf("at %d: PC %d, register 1 is %d", pc, c.PC(), c.Reg(1))
		}
	}
	// Behind the last instruction there is no other.
	c, o := both(t, start{at: 60, pc: 60, vector: 52, words: encode(t, isa.Inst{Op: isa.ADDI, Rd: 1, Imm: 7})})
	checkStep(t, c, o)
	checkTrap(t, c, o, FetchFault, 64, 64)
}

func TestP505Illegal(t *testing.T) {
	words := append([]uint32{0, 1, 2, 3, 0x7f, 0x00008068, 0x0000100f, 0x0000008f, 0x00200073, 0x000000f3, 0x00002063, 0x00003003, 0x00003023, 0x40001013, 0x02005013, 0x04000033, 0x40001033, 1<<32 - 1}, edges...)
	next := random(1)
	for range 3000 {
		words = append(words, next())
	}
	illegal := 0
	for _, w := range words {
		c, o := both(t, start{at: 16, pc: 16, vector: 52, words: []uint32{w}})
		if _, err := isa.Decode(w); err == api.OK {
			checkStep(t, c, o)
			continue
		}
		illegal++
		checkTrap(t, c, o, Illegal, 16, w)
	}
	if illegal < 1000 {
		t.Errorf("%d words were no instruction", illegal)
	}
}

// wild returns a machine whose memory is full of instructions, most of them legal, and whose
// registers are such that many addresses are in the memory, at its edges or at the port.
func wild(t testing.TB, seed uint32) (*CPU, *model) {
	t.Helper()
	next := random(seed)
	s := start{size: 256, input: "some input, which is read byte by byte", pc: 4 * (next() % 64), vector: 4 * (next() % 64)}
	if seed%2 == 1 {
		from := next() % 250
		s.holes = []memory.Hole{{From: from, To: from + next()%8}, {From: 250, To: 250}}
	}
	for range s.size / 4 {
		s.words = append(s.words, wildWord(t, next))
	}
	c, o := both(t, s)
	for n := range 32 {
		setWild(c, o, n, next)
	}
	return c, o
}

func setWild(c *CPU, o *model, n int, next func() uint32) {
	switch n % 4 {
	case 0:
		setReg(c, o, n, next()%280)
	case 1:
		setReg(c, o, n, api.Port+next()%10*4)
	case 2:
		setReg(c, o, n, edges[next()%uint32(len(edges))])
	}
}

func wildWord(t testing.TB, next func() uint32) uint32 {
	t.Helper()
	pick := func(n int) int { return int(next() % uint32(n)) }
	if pick(40) == 0 {
		return next()
	}
	i := isa.Inst{Op: pick(isa.REMU + 1)}
	small := pick(16)*4 - 32
	switch isa.Shape(i.Op) {
	case isa.Upper:
		i.Rd, i.Imm = pick(32), pick(1<<20)
	case isa.Jump:
		i.Rd, i.Imm = pick(32), small+pick(50)/49*2
	case isa.Imm:
		i.Rd, i.Rs1, i.Imm = pick(32), pick(32), small+pick(10)/9
	case isa.Small:
		i.Rd, i.Rs1, i.Imm = pick(32), pick(32), pick(32)
	case isa.Branch:
		i.Rs1, i.Rs2, i.Imm = pick(32), pick(32), small
	case isa.Store:
		i.Rs1, i.Rs2, i.Imm = pick(8)*4+pick(2), pick(32), small/16*4+pick(10)/9
	case isa.Reg:
		i.Rd, i.Rs1, i.Rs2 = pick(32), pick(32), pick(32)
	}
	return encode(t, i)[0]
}

// Whatever is executed, the machine does what the model does. So that it does not end in a circle
// soon, its vector and its registers are set anew now and then.
func TestP502Wild(t *testing.T) {
	seen, halts := map[int64]int{}, 0
	for seed := range uint32(300) {
		c, o := wild(t, seed)
		next := random(seed + 1000)
		for k := 0; k < 500 && !o.halted; k++ {
			before := *o
			checkStep(t, c, o)
			if o.epc != before.epc {
				seen[o.cause]++
				setVector(c, o, 4*(next()%64))
			}
			setWild(c, o, int(next()%32), next)
		}
		if o.halted {
			halts++
			checkStep(t, c, o)
		}
	}
	for _, cause := range []int64{FetchAlign, FetchFault, Illegal, Break, LoadAlign, LoadFault, StoreAlign, StoreFault, Call} {
		if seen[cause] < 100 {
			t.Errorf("cause %d was seen %d times", cause, seen[cause])
		}
	}
	if halts < 10 {
		t.Errorf("%d machines halted", halts)
	}
}
