// Package bits writes numbers bit by bit, and reads them back.
package bits

import "bytes"

const (
	perByte = 8
	most    = 64
)

// Writer holds the bits that were put.
type Writer struct {
	b    []byte
	free uint // how many bits of b's last byte nothing was put into yet
}

// NewWriter makes a writer that holds no bits.
func NewWriter() *Writer {
	return &Writer{}
}

// Put adds the n (held to 0 to 64) lowest bits of v, the highest of them first.
func (w *Writer) Put(v uint64, n int) {
	for left := held(n); left > 0; {
		if w.free == 0 {
			w.b = append(w.b, 0)
			w.free = perByte
		}
		k := min(left, w.free)
		left -= k
		w.free -= k
		w.b[len(w.b)-1] |= lowest(v>>left, k) << w.free
	}
}

// Len tells how many bits there are.
func (w *Writer) Len() int {
	return perByte*len(w.b) - int(w.free)
}

// Bytes tells the bits, eight to a byte, the first one the byte's highest; 0s fill the last byte.
func (w *Writer) Bytes() []byte {
	return bytes.Clone(w.b)
}

// Reader reads the bits of bytes.
type Reader struct {
	b     []byte // what is not read to its end yet
	used  uint   // how many bits of b's first byte are read
	ended bool   // more was asked than was left
}

// NewReader makes a reader of what b holds now.
func NewReader(b []byte) *Reader {
	return &Reader{b: bytes.Clone(b)}
}

// Get reads the next n (held to 0 to 64) bits as a number; where fewer are left it tells 0, then and ever after.
func (r *Reader) Get(n int) uint64 {
	left := held(n)
	if int(left) > r.Left() {
		// With nothing left, every later Get tells 0 without asking whether the reader is Ok.
		*r = Reader{ended: true}
		return 0
	}
	var v uint64
	for left > 0 {
		k := min(left, perByte-r.used)
		left -= k
		v = v<<k | uint64(lowest(uint64(r.b[0])>>(perByte-r.used-k), k))
		r.pass(k)
	}
	return v
}

// pass goes k bits on, at most to the end of the first byte.
func (r *Reader) pass(k uint) {
	r.used += k
	if r.used == perByte {
		r.b, r.used = r.b[1:], 0
	}
}

// Left tells how many bits are left.
func (r *Reader) Left() int {
	return perByte*len(r.b) - int(r.used)
}

// Ok tells whether no Get asked for more than was left.
func (r *Reader) Ok() bool {
	return !r.ended
}

// held is n, held to 0 to 64.
func held(n int) uint {
	return uint(max(0, min(n, most)))
}

// lowest is the k (at most 8) lowest bits of v.
func lowest(v uint64, k uint) byte {
	return byte(v & (1<<k - 1))
}
