// Package stuff is layer 1: see shared/doc/01-stuff.md.
package stuff

import (
	"bytes"

	"tontine/api"
)

// longest is the first byte of the longest piece: it has 254 bytes of what it stands for, and no zero behind it.
const longest = 255

// Encode: bytes without a zero that stand for b: in pieces of up to 254 bytes, each with its length and one ahead.
func Encode(b []byte) []byte {
	out := make([]byte, 0, len(b)+len(b)/(longest-1)+1)
	for {
		n := run(b)
		out = append(out, byte(n+1))
		out = append(out, b[:n]...)
		b = b[n:]
		if n == longest-1 {
			continue // even when b is at its end: another piece must stand behind this one
		}
		if len(b) == 0 {
			return out
		}
		b = b[1:] // this zero is said by the next piece's beginning
	}
}

// run: how many bytes of the front of b one piece can take.
func run(b []byte) int {
	n := min(len(b), longest-1)
	if zero := bytes.IndexByte(b[:n], 0); zero >= 0 {
		return zero
	}
	return n
}

// Decode: back; ErrForm, if nothing is encoded so.
func Decode(b []byte) ([]byte, api.Errno) {
	out := make([]byte, 0, len(b))
	for {
		n := piece(b)
		if n == 0 {
			return nil, api.ErrForm
		}
		out = append(out, b[1:n]...)
		b = b[n:]
		if n == longest {
			continue // b at its end is refused above: another piece must stand behind this one
		}
		if len(b) == 0 {
			return out, api.OK
		}
		out = append(out, 0)
	}
}

// piece: the length of the piece at the front of b; 0, if none stands there.
func piece(b []byte) int {
	if len(b) == 0 {
		return 0
	}
	n := int(b[0])
	if n == 0 || n > len(b) || bytes.IndexByte(b[1:n], 0) >= 0 {
		return 0
	}
	return n
}
