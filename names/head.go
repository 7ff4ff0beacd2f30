package names

import (
	"bytes"

	"swage/api"
)

const (
	beforeName = 14 // bytes of a header before the name: three words, the flags, the name's length
	allFlags   = Immediate | Inline | NoTail | Hidden
)

// Head is what precedes the code of a word.
type Head struct {
	Name           string
	Flags          int
	Link, Xt, Size uint32
}

// Bytes returns the bytes of a header.
func Bytes(h Head) ([]byte, api.Errno) {
	if !Right(h.Name) {
		return nil, api.ErrName
	}
	if h.Flags < 0 || h.Flags > allFlags {
		return nil, api.ErrArg
	}
	b := little(4, h.Link, h.Xt, h.Size)
	b = append(b, little(1, uint32(h.Flags), uint32(len(h.Name)))...)
	b = append(b, h.Name...)
	padding := make([]byte, Length(h.Name)-len(b))
	return append(b, padding...), api.OK
}

// little returns the size lowest bytes of each of these words, the lowest first.
func little(size int, words ...uint32) []byte {
	var b []byte
	for _, w := range words {
		for range size {
			b = append(b, byte(w))
			w >>= 8
		}
	}
	return b
}

// Read returns the header with which b begins, and its number of bytes.
func Read(b []byte) (Head, int, api.Errno) {
	if len(b) < beforeName || len(b) < beforeName+int(b[13]) {
		return Head{}, 0, api.ErrForm
	}
	h := Head{
		Name:  string(b[beforeName:][:b[13]]),
		Flags: int(b[12]),
		Link:  word(b[0:4]...),
		Xt:    word(b[4:8]...),
		Size:  word(b[8:12]...),
	}
	// A header has one form alone, so that b begins with this one or with none.
	own, err := Bytes(h)
	if err != api.OK || !bytes.HasPrefix(b, own) {
		return Head{}, 0, api.ErrForm
	}
	return h, len(own), api.OK
}

// word returns the word of which these are the bytes, the lowest first.
func word(b ...byte) uint32 {
	w := uint32(0)
	for k, x := range b {
		w |= uint32(x) << (8 * k)
	}
	return w
}
