package cpu

import (
	"swage/api"
	"swage/bits"
	"swage/isa"
)

// Addresses of the port.
const (
	portOut = api.Port + 4*iota
	portIn
	portHalt
	portCause
	portEpc
	portTval
	portVector
	portReturn
)

// size returns the number of bytes that an operation loads or stores.
func size(op int) int {
	n := 1
	switch op {
	case isa.LW, isa.SW:
		n *= 2
		fallthrough
	case isa.LH, isa.LHU, isa.SH:
		n *= 2
	}
	return n
}

func (c *core) load(op, rd int, at uint32) uint32 {
	n := size(op)
	v, err := c.get(at, n)
	if err != api.OK {
		return c.refuse(err, LoadAlign, LoadFault, at)
	}
	switch op {
	case isa.LB, isa.LH:
		v = bits.Sext(v, 8*n)
	}
	c.set(rd, v)
	return c.pc + 4
}

// get returns the n bytes at an address of the port or of the memory. Memories end far below the
// port, and so refuse all that is not the port's there: other sizes, and addresses without a meaning.
func (c *core) get(at uint32, n int) (uint32, api.Errno) {
	if n == 4 {
		switch at {
		case portIn:
			return c.In(), api.OK
		case portCause:
			return c.cause, api.OK
		case portEpc:
			return c.epc, api.OK
		case portTval:
			return c.tval, api.OK
		case portVector:
			return c.vector, api.OK
		case portOut, portHalt, portReturn:
			return 0, api.OK
		}
	}
	return c.Read(at, n)
}

// store is to the port what get is: the memory refuses all that is not the port's there.
func (c *core) store(op int, at, v uint32) uint32 {
	next, n := c.pc+4, size(op)
	if n == 4 {
		switch at {
		case portOut:
			c.Out(v)
			return next
		case portHalt:
			c.Halt(v)
			return next
		case portEpc:
			c.epc = v
			return next
		case portVector:
			c.vector = v
			return next
		case portReturn:
			return c.epc
		case portIn, portCause, portTval:
			return next
		}
	}
	if err := c.Write(at, n, v); err != api.OK {
		return c.refuse(err, StoreAlign, StoreFault, at)
	}
	return next
}
