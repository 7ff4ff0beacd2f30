package asm

import (
	"strings"

	"swage/lines"
)

const quote = `"`

// operand is a number, or the symbol with this name.
type operand struct {
	number int
	symbol string // "" where it is a number
}

// operands reads the Args of a line one by one, and keeps whether one of them was not as required.
// Where it was not, what it is read as is a zero value.
type operands struct {
	rest  []string
	wrong bool
}

// next returns the next Arg, or "", which nothing can be read as, where there is none.
func (a *operands) next() string {
	if len(a.rest) == 0 {
		return ""
	}
	arg := a.rest[0]
	a.rest = a.rest[1:len(a.rest):len(a.rest)]
	return arg
}

// end reports whether all Args were as required, and none is left.
func (a *operands) end() bool {
	return !a.wrong && len(a.rest) == 0
}

// require keeps that an Arg was not as required.
func (a *operands) require(ok bool) {
	a.wrong = a.wrong || !ok
}

func (a *operands) register() int {
	n, ok := lines.Register(a.next())
	a.require(ok)
	return n
}

func (a *operands) number() int {
	n, ok := lines.Number(a.next())
	a.require(ok)
	return n
}

// between reads a number that is from least to most.
func (a *operands) between(least, most int) int {
	n := a.number()
	a.require(n >= least && n <= most)
	return n
}

// value reads a number or a symbol.
func (a *operands) value() operand {
	arg := a.next()
	if n, ok := lines.Number(arg); ok {
		return operand{number: n}
	}
	_, register := lines.Register(arg)
	a.require(arg != "" && !register && !strings.HasPrefix(arg, quote))
	return operand{symbol: arg}
}

func (a *operands) symbol() string {
	v := a.value()
	a.require(v.symbol != "")
	return v.symbol
}

// target reads the target of an instruction.
func (a *operands) target(i *instruction) {
	v := a.value()
	i.Imm, i.target = v.number, v.symbol
}

// cells reads one or more numbers or symbols.
func (a *operands) cells() cells {
	c := cells{a.value()}
	for len(a.rest) > 0 {
		c = append(c, a.value())
	}
	return c
}

// bytes reads one or more numbers of a byte, signed or unsigned.
func (a *operands) bytes() raw {
	var b strings.Builder
	b.WriteByte(a.byte())
	for len(a.rest) > 0 {
		b.WriteByte(a.byte())
	}
	return raw(b.String())
}

func (a *operands) byte() byte {
	return byte(a.between(-128, 255))
}

// text reads a quoted text. Of its last byte nothing is required.
func (a *operands) text() raw {
	inner, ok := strings.CutPrefix(a.next(), quote)
	if !ok || inner == "" {
		a.wrong = true
		return ""
	}
	return raw(inner[:len(inner)-1])
}
