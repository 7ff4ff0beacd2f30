package isa

import (
	"math"
	"strings"
	"testing"

	"swage/api"
)

// A test's name begins with the number of the promise that it holds.

// operation: what the document says of one; funct3 and funct7 are 0 where the shape has none.
type operation struct {
	op                     int
	name                   string
	shape                  int
	opcode, funct3, funct7 uint32
}

// operations stand in the order of their numbers.
var operations = []operation{
	{LUI, "lui", Upper, 0x37, 0, 0}, {AUIPC, "auipc", Upper, 0x17, 0, 0}, {JAL, "jal", Jump, 0x6f, 0, 0}, {JALR, "jalr", Imm, 0x67, 0, 0},
	{BEQ, "beq", Branch, 0x63, 0, 0}, {BNE, "bne", Branch, 0x63, 1, 0}, {BLT, "blt", Branch, 0x63, 4, 0},
	{BGE, "bge", Branch, 0x63, 5, 0}, {BLTU, "bltu", Branch, 0x63, 6, 0}, {BGEU, "bgeu", Branch, 0x63, 7, 0},
	{LB, "lb", Imm, 0x03, 0, 0}, {LH, "lh", Imm, 0x03, 1, 0}, {LW, "lw", Imm, 0x03, 2, 0}, {LBU, "lbu", Imm, 0x03, 4, 0}, {LHU, "lhu", Imm, 0x03, 5, 0},
	{SB, "sb", Store, 0x23, 0, 0}, {SH, "sh", Store, 0x23, 1, 0}, {SW, "sw", Store, 0x23, 2, 0},
	{ADDI, "addi", Imm, 0x13, 0, 0}, {SLTI, "slti", Imm, 0x13, 2, 0}, {SLTIU, "sltiu", Imm, 0x13, 3, 0},
	{XORI, "xori", Imm, 0x13, 4, 0}, {ORI, "ori", Imm, 0x13, 6, 0}, {ANDI, "andi", Imm, 0x13, 7, 0},
	{SLLI, "slli", Small, 0x13, 1, 0}, {SRLI, "srli", Small, 0x13, 5, 0}, {SRAI, "srai", Small, 0x13, 5, 0x20},
	{ADD, "add", Reg, 0x33, 0, 0}, {SUB, "sub", Reg, 0x33, 0, 0x20}, {SLL, "sll", Reg, 0x33, 1, 0}, {SLT, "slt", Reg, 0x33, 2, 0}, {SLTU, "sltu", Reg, 0x33, 3, 0},
	{XOR, "xor", Reg, 0x33, 4, 0}, {SRL, "srl", Reg, 0x33, 5, 0}, {SRA, "sra", Reg, 0x33, 5, 0x20}, {OR, "or", Reg, 0x33, 6, 0}, {AND, "and", Reg, 0x33, 7, 0},
	{FENCE, "fence", Order, 0x0f, 0, 0}, {ECALL, "ecall", Bare, 0x73, 0, 0}, {EBREAK, "ebreak", Bare, 0x73, 0, 0},
	{MUL, "mul", Reg, 0x33, 0, 1}, {MULH, "mulh", Reg, 0x33, 1, 1}, {MULHSU, "mulhsu", Reg, 0x33, 2, 1}, {MULHU, "mulhu", Reg, 0x33, 3, 1},
	{DIV, "div", Reg, 0x33, 4, 1}, {DIVU, "divu", Reg, 0x33, 5, 1}, {REM, "rem", Reg, 0x33, 6, 1}, {REMU, "remu", Reg, 0x33, 7, 1},
}

// field: n bits of a word; from tells from which bit of its source on.
type field struct {
	source  rune
	from, n int
}

// layouts tell the fields of the words of a shape, from the lowest on. The sources are d, s, t
// (Rd, Rs1, Rs2), i (Imm), 3, 7 (funct3, funct7) and 0 (bits that are 0).
var layouts = map[int][]field{
	Upper:  {{'d', 0, 5}, {'i', 0, 20}},
	Jump:   {{'d', 0, 5}, {'i', 12, 8}, {'i', 11, 1}, {'i', 1, 10}, {'i', 20, 1}},
	Imm:    {{'d', 0, 5}, {'3', 0, 3}, {'s', 0, 5}, {'i', 0, 12}},
	Small:  {{'d', 0, 5}, {'3', 0, 3}, {'s', 0, 5}, {'i', 0, 5}, {'7', 0, 7}},
	Order:  {{'0', 0, 5}, {'3', 0, 3}, {'0', 0, 5}, {'i', 0, 12}},
	Branch: {{'i', 11, 1}, {'i', 1, 4}, {'3', 0, 3}, {'s', 0, 5}, {'t', 0, 5}, {'i', 5, 6}, {'i', 12, 1}},
	Store:  {{'i', 0, 5}, {'3', 0, 3}, {'s', 0, 5}, {'t', 0, 5}, {'i', 5, 7}},
	Reg:    {{'d', 0, 5}, {'3', 0, 3}, {'s', 0, 5}, {'t', 0, 5}, {'7', 0, 7}},
}

// imms tell the Imms of a shape: from, up to, and by which step.
var imms = map[int][3]int{
	Upper: {0, 1<<20 - 1, 1}, Jump: {-1 << 20, 1<<20 - 2, 2}, Imm: {-2048, 2047, 1}, Branch: {-4096, 4094, 2}, Store: {-2048, 2047, 1},
	Small: {0, 31, 1}, Order: {-2048, 2047, 1}, Reg: {0, 0, 1}, Bare: {0, 0, 1},
}

// has tells which registers a shape has.
var has = map[int]string{Upper: "d", Jump: "d", Imm: "ds", Branch: "st", Store: "st", Small: "ds", Reg: "dst", Bare: "", Order: ""}

func (o operation) has(register string) bool { return strings.Contains(has[o.shape], register) }

// word returns the word of a legal record, put together by the layouts.
func (o operation) word(i Inst) uint32 {
	switch o.op {
	case ECALL:
		return 0x00000073
	case EBREAK:
		return 0x00100073
	}
	sources := map[rune]uint32{'d': uint32(i.Rd), 's': uint32(i.Rs1), 't': uint32(i.Rs2), 'i': uint32(i.Imm), '3': o.funct3, '7': o.funct7}
	w, at := o.opcode, 7
	for _, f := range layouts[o.shape] {
		w |= sources[f.source] >> f.from & (1<<f.n - 1) << at
		at += f.n
	}
	return w
}

// is reports whether a word is one of the operation's.
func (o operation) is(w uint32) bool {
	if o.shape == Bare {
		return w == o.word(Inst{})
	}
	if w&0x7f != o.opcode {
		return false
	}
	at := 7
	for _, f := range layouts[o.shape] {
		bits := w >> at & (1<<f.n - 1)
		if f.source == '3' && bits != o.funct3 || f.source == '7' && bits != o.funct7 || f.source == '0' && bits != 0 {
			return false
		}
		at += f.n
	}
	return true
}

// record returns the record of a word that is one of the operation's.
func (o operation) record(w uint32) Inst {
	i := Inst{Op: o.op}
	if o.shape == Bare {
		return i
	}
	at := 7
	for _, f := range layouts[o.shape] {
		bits := int(w >> at & (1<<f.n - 1))
		switch f.source {
		case 'd':
			i.Rd = bits
		case 's':
			i.Rs1 = bits
		case 't':
			i.Rs2 = bits
		case 'i':
			i.Imm |= bits << f.from
		}
		at += f.n
	}
	if r := imms[o.shape]; i.Imm > r[1] {
		i.Imm += 2 * r[0] // a negative one
	}
	return i
}

// checkWord holds what Decode answers for a word, and Encode for that, against the tables.
func checkWord(t *testing.T, w uint32) {
	t.Helper()
	want, code := Inst{}, api.ErrWord
	for _, o := range operations {
		if o.is(w) {
			want, code = o.record(w), api.OK
		}
	}
	got, err := Decode(w)
	if got != want || err != code {
		t.Fatalf("Decode(%#08x) = %+v, %d, want %+v, %d", w, got, err, want, code)
	}
	if back, err := Encode(got); code == api.OK && (back != w || err != api.OK) {
		t.Fatalf("Encode(Decode(%#08x)) = %#08x, %d", w, back, err)
	}
}

// checkLegal holds what is answered for a legal record.
func checkLegal(t *testing.T, o operation, i Inst) {
	t.Helper()
	if !Legal(i) {
		t.Fatalf("Legal(%+v) is false", i)
	}
	w, err := Encode(i)
	if want := o.word(i); w != want || err != api.OK {
		t.Fatalf("Encode(%+v) = %#08x, %d, want %#08x", i, w, err, want)
	}
	if back, err := Decode(w); back != i || err != api.OK {
		t.Fatalf("Decode(%#08x) = %+v, %d, want %+v", w, back, err, i)
	}
}

func checkIllegal(t *testing.T, i Inst) {
	t.Helper()
	if Legal(i) {
		t.Errorf("Legal(%+v) is true", i)
	}
	if w, err := Encode(i); w != 0 || err != api.ErrInst {
		t.Errorf("Encode(%+v) = %#08x, %d", i, w, err)
	}
}

// registers returns those to be tried for a register's field.
func registers(there bool) []int {
	if there {
		return []int{0, 1, 2, 5, 10, 16, 21, 30, 31}
	}
	return []int{0}
}

// someImms returns a shape's least and greatest Imms, those around 0, and each bit alone.
func someImms(shape int) []int {
	r := imms[shape]
	seen := map[int]bool{}
	l := []int{}
	add := func(n int) {
		if n >= r[0] && n <= r[1] && n%r[2] == 0 && !seen[n] {
			seen[n] = true
			l = append(l, n)
		}
	}
	for k := range 3 {
		add(r[0] + k*r[2])
		add(r[1] - k*r[2])
		add(k)
		add(-k)
	}
	for k := range 21 {
		add(1 << k)
		add(-1 << k)
		add(0x55555 >> (20 - k))
	}
	return l
}

// someLegal calls f with legal records of an operation: the edges of all fields, with one another.
func someLegal(o operation, f func(i Inst)) {
	for _, rd := range registers(o.has("d")) {
		for _, rs1 := range registers(o.has("s")) {
			for _, rs2 := range registers(o.has("t")) {
				for _, imm := range someImms(o.shape) {
					f(Inst{o.op, rd, rs1, rs2, imm})
				}
			}
		}
	}
}

var noOps = []int{math.MinInt, math.MinInt32, -48, -2, -1, 48, 49, 96, 255, 256, 1 << 32, math.MaxInt}

func TestP201Pure(t *testing.T) {
	numbers := []int{math.MinInt, -1 << 32, -1, 0, 1, 31, 32, 1 << 32, math.MaxInt}
	ask := func() (l []any) {
		for _, op := range append(noOps, LUI, JAL, BEQ, LW, SW, SLLI, ADD, FENCE, EBREAK) {
			for _, a := range numbers {
				for _, b := range numbers {
					i := Inst{op, a, b, a, b}
					w, err := Encode(i)
					l = append(l, Legal(i), w, err)
				}
			}
			l = append(l, Name(op), Shape(op))
		}
		for k := range uint32(1000) {
			i, err := Decode(k * 0x9e3779b1)
			l = append(l, i, err)
		}
		for _, s := range []string{"", "add", "ADD", strings.Repeat("add", 1000), "\xff\x00"} {
			op, ok := ByName(s)
			l = append(l, op, ok)
		}
		return l
	}
	first, second := ask(), ask()
	for k := range first {
		if first[k] != second[k] {
			t.Fatalf("answer %d: %v, then %v", k, first[k], second[k])
		}
	}
}

func TestP202Numbers(t *testing.T) {
	if len(operations) != 48 {
		t.Fatal(len(operations))
	}
	for k, o := range operations {
		if o.op != k {
			t.Errorf("%s is %d, want %d", o.name, o.op, k)
		}
	}
	for k, shape := range []int{Upper, Jump, Imm, Branch, Store, Small, Reg, Bare, Order} {
		if shape != k {
			t.Errorf("shape %d is %d", k, shape)
		}
	}
}

func TestP202Shape(t *testing.T) {
	for _, o := range operations {
		if got := Shape(o.op); got != o.shape {
			t.Errorf("Shape of %s = %d, want %d", o.name, got, o.shape)
		}
	}
	for _, op := range noOps {
		if got := Shape(op); got != -1 {
			t.Errorf("Shape(%d) = %d", op, got)
		}
	}
}

func TestP202Name(t *testing.T) {
	for _, o := range operations {
		if got := Name(o.op); got != o.name {
			t.Errorf("Name(%d) = %q, want %q", o.op, got, o.name)
		}
	}
	for _, op := range noOps {
		if got := Name(op); got != "" {
			t.Errorf("Name(%d) = %q", op, got)
		}
	}
}

func TestP202ByName(t *testing.T) {
	none := []string{"", " ", "x", "nop", "ret", "li", "mv", "j", "bgt", "beqz", "subi", "sltui", "raw", "lwu", "ld", "addiw", "fence.i", "mret",
		"\x00", "add\x00", "\xff", "é", strings.Repeat("a", 100000)}
	for _, o := range operations {
		if op, ok := ByName(o.name); op != o.op || !ok {
			t.Errorf("ByName(%q) = %d, %t, want %d", o.name, op, ok, o.op)
		}
		none = append(none, strings.ToUpper(o.name), strings.ToUpper(o.name[:1])+o.name[1:], " "+o.name, o.name+" ", o.name+",", o.name+o.name)
	}
	for _, s := range none {
		if op, ok := ByName(s); op != 0 || ok {
			t.Errorf("ByName(%q) = %d, %t", s, op, ok)
		}
	}
}

func TestP202Examples(t *testing.T) {
	for _, i := range []Inst{{Op: ADD, Imm: 1}, {Op: BEQ, Imm: 3}, {Op: 48}} {
		checkIllegal(t, i)
	}
	for _, c := range []struct {
		i Inst
		w uint32
	}{
		{Inst{Op: BNE, Rs1: 5, Imm: -4}, 0xfe029ee3}, {Inst{Op: JALR, Rs1: 1}, 0x00008067}, {Inst{Op: ADDI, Rd: 1, Rs1: 2, Imm: -1}, 0xfff10093},
		{Inst{Op: ECALL}, 0x00000073}, {Inst{Op: EBREAK}, 0x00100073}, {Inst{Op: JAL}, 0x0000006f}, {Inst{Op: ADDI}, 0x00000013},
		{Inst{Op: JAL, Rd: 1, Imm: -2}, 0xfffff0ef}, {Inst{Op: JAL, Imm: 2048}, 0x0010006f}, {Inst{Op: JAL, Imm: -1 << 20}, 0x8000006f},
		{Inst{Op: LUI, Rd: 1, Imm: 0xfffff}, 0xfffff0b7}, {Inst{Op: AUIPC, Rd: 31, Imm: 1}, 0x00001f97},
		{Inst{Op: LW, Rd: 5, Rs1: 8, Imm: 4}, 0x00442283}, {Inst{Op: SW, Rs1: 8, Rs2: 5, Imm: -4}, 0xfe542e23}, {Inst{Op: SB, Rs1: 2, Rs2: 1, Imm: 31}, 0x00110fa3},
		{Inst{Op: BEQ, Imm: 2048}, 0x000000e3}, {Inst{Op: BGEU, Rs1: 1, Rs2: 2, Imm: 8}, 0x0020f463},
		{Inst{Op: SRAI, Rd: 1, Rs1: 1, Imm: 31}, 0x41f0d093}, {Inst{Op: SUB, Rd: 3, Rs1: 1, Rs2: 2}, 0x402081b3}, {Inst{Op: REMU, Rd: 3, Rs1: 1, Rs2: 2}, 0x0220f1b3},
		{Inst{Op: FENCE, Imm: 0xff}, 0x0ff0000f}, {Inst{Op: FENCE, Imm: -1}, 0xfff0000f},
	} {
		if w, err := Encode(c.i); w != c.w || err != api.OK {
			t.Errorf("Encode(%+v) = %#08x, %d, want %#08x", c.i, w, err, c.w)
		}
		if i, err := Decode(c.w); i != c.i || err != api.OK {
			t.Errorf("Decode(%#08x) = %+v, %d, want %+v", c.w, i, err, c.i)
		}
	}
}

// TestP202Registers tries what is no register, in each register's field, and each register where the shape has none.
func TestP202Registers(t *testing.T) {
	for _, o := range operations {
		for _, f := range []struct {
			name string
			make func(n int) Inst
		}{
			{"d", func(n int) Inst { return Inst{Op: o.op, Rd: n} }},
			{"s", func(n int) Inst { return Inst{Op: o.op, Rs1: n} }},
			{"t", func(n int) Inst { return Inst{Op: o.op, Rs2: n} }},
		} {
			for n := -64; n <= 64; n++ {
				if n == 0 || o.has(f.name) && n > 0 && n < 32 {
					checkLegal(t, o, f.make(n))
				} else {
					checkIllegal(t, f.make(n))
				}
			}
			for _, n := range []int{math.MinInt, -1 << 32, 1 << 32, 1<<32 + 1, math.MaxInt} {
				checkIllegal(t, f.make(n))
			}
		}
	}
}

// TestP202Imms tries the edges of each shape's Imms, odd ones among them.
func TestP202Imms(t *testing.T) {
	for _, o := range operations {
		r := imms[o.shape]
		tried := []int{math.MinInt, -1 << 32, -1 << 31, 1 << 31, 1 << 32, 1<<32 + 2, math.MaxInt - 1, math.MaxInt}
		for k := -5; k <= 5; k++ {
			tried = append(tried, k, r[0]+k, r[1]+k, r[1]/2+k)
		}
		for k := range 32 {
			tried = append(tried, 1<<k, -1<<k, 1<<k+1, -1<<k+1, 1<<k-1, -1<<k-1)
		}
		for _, n := range tried {
			i := Inst{Op: o.op, Imm: n}
			if n >= r[0] && n <= r[1] && n%r[2] == 0 {
				checkLegal(t, o, i)
			} else {
				checkIllegal(t, i)
			}
		}
	}
}

func TestP202NoOps(t *testing.T) {
	for _, op := range noOps {
		checkIllegal(t, Inst{Op: op})
		checkIllegal(t, Inst{op, 1, 1, 1, 2})
	}
}

func TestP202NoWords(t *testing.T) {
	for _, w := range []uint32{0, 1, 2, 1<<32 - 1, 1 << 31, 0x00200073, 0x00100173, 0x00108073, 0x000000f3, 0x00001073, 0x30200073,
		0x0000100f, 0x0000008f, 0x0000800f, 0x00001067, 0x00002063, 0x00003063, 0x00003003, 0x00006003, 0x00003023, 0x00007023,
		0x40001013, 0x02001013, 0x02005013, 0x60005013, 0x40001033, 0x40002033, 0x40007033, 0x42000033, 0x04000033, 0x0000003b, 0x0000001b} {
		if i, err := Decode(w); i != (Inst{}) || err != api.ErrWord {
			t.Errorf("Decode(%#08x) = %+v, %d", w, i, err)
		}
	}
}

// TestP202Neighbours tries words that differ from an instruction's in one bit.
func TestP202Neighbours(t *testing.T) {
	for _, o := range operations {
		someLegal(o, func(i Inst) {
			if i.Rd != 0 && i.Rd != 21 || i.Rs1 != 0 && i.Rs1 != 10 || i.Rs2 != 0 && i.Rs2 != 16 {
				return
			}
			w := o.word(i)
			for k := range 32 {
				checkWord(t, w^1<<k)
			}
		})
	}
}

// TestP202EachPattern tries each opcode with each funct3 and funct7, and some of what stands between them.
func TestP202EachPattern(t *testing.T) {
	for pattern := range uint32(1 << 17) {
		w := pattern&0x7f | pattern>>7&7<<12 | pattern>>10<<25
		for _, between := range []uint32{0, 1 << 20, 31<<7 | 31<<15 | 31<<20, 9<<7 | 18<<15 | 5<<20} {
			checkWord(t, w|between)
		}
	}
}

func TestP203Records(t *testing.T) {
	for _, o := range operations {
		someLegal(o, func(i Inst) { checkLegal(t, o, i) })
	}
}

// TestP203Imms tries all Imms of an operation of each shape.
func TestP203Imms(t *testing.T) {
	for _, op := range []int{LUI, JAL, JALR, BGE, LHU, SB, ANDI, SRAI, FENCE} {
		o := operations[op]
		r := imms[o.shape]
		for n := r[0]; n <= r[1]; n += r[2] {
			i := Inst{Op: op, Imm: n}
			w, err := Encode(i)
			if back, code := Decode(w); back != i || err != api.OK || code != api.OK {
				t.Fatalf("Decode(Encode(%+v)) = %+v, %d, %d", i, back, err, code)
			}
		}
	}
}

// TestP203Words tries the same words each time, of which many are instructions'.
func TestP203Words(t *testing.T) {
	x := uint64(203)
	for k := range 100000 {
		x = x*6364136223846793005 + 1442695040888963407
		w := uint32(x >> 32)
		checkWord(t, w)
		checkWord(t, w&^0x7f|operations[k%len(operations)].opcode)
	}
}

func TestP204Injective(t *testing.T) {
	by := map[uint32]Inst{}
	put := func(i Inst) {
		w, err := Encode(i)
		if err != api.OK {
			t.Fatalf("Encode(%+v): %d", i, err)
		}
		if was, there := by[w]; there && was != i {
			t.Fatalf("%+v and %+v are both %#08x", was, i, w)
		}
		by[w] = i
	}
	for _, o := range operations {
		someLegal(o, put)
		r := imms[o.shape]
		for n := r[0]; n <= r[1] && o.shape != Upper && o.shape != Jump; n += r[2] {
			put(Inst{Op: o.op, Imm: n})
		}
	}
}
