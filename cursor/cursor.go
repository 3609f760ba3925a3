// Package cursor: bytes, one behind the other. See doc/01-cursor.md.
package cursor

import (
	"shredder/api"
)

// longest is how many bytes a number has at most.
const longest = 8

// Put puts the lowest n bytes of a number, the lowest first.
func Put(b []byte, n int, v uint64) []byte {
	n = width(n)
	// The room is the result's own: an append to b might write behind its end.
	out := append(make(list, 0, len(b)+n), b...)
	from := digits{v: v}
	carry(n, from.pop, out.add)
	return out
}

// Reader reads; its first error stays.
type Reader struct {
	rest []byte // nothing from the first error on
	err  api.Errno
}

// New copies b: what the caller does to it later is not to be read.
func New(b []byte) *Reader {
	return &Reader{rest: append([]byte(nil), b...)}
}

// Get reads a number of n bytes, the lowest first.
func (r *Reader) Get(n int) uint64 {
	n = width(n)
	if !r.has(n) {
		return 0
	}
	var to digits
	carry(n, r.step, to.push)
	return to.v
}

// Take reads n bytes; they are a copy, for the caller may write into them.
func (r *Reader) Take(n int) []byte {
	n = max(n, 0)
	if !r.has(n) {
		return nil
	}
	part := append([]byte(nil), r.rest[:n]...)
	r.rest = r.rest[n:]
	return part
}

// Left is how many bytes are left.
func (r *Reader) Left() int { return len(r.rest) }

// Fail sets the error, if there is none yet.
func (r *Reader) Fail(e api.Errno) {
	if r.err != api.OK || e == api.OK {
		return
	}
	// Without bytes, no later read finds any: none has to ask for the error.
	r.err, r.rest = e, nil
}

// End tells the error. To ask sets none: bytes that are left may still be read.
func (r *Reader) End() api.Errno {
	if len(r.rest) > 0 {
		return api.ErrMore
	}
	return r.err
}

// has tells whether n bytes are left; if not, that is an error.
func (r *Reader) has(n int) bool {
	if n > len(r.rest) {
		r.Fail(api.ErrCut)
		return false
	}
	return true
}

// step reads one byte, of which has knows that it is left.
func (r *Reader) step() byte {
	b := r.rest[0]
	r.rest = r.rest[1:]
	return b
}

// width is how many bytes a number is asked to have: none, where it can't have so many.
func width(n int) int {
	if n < 0 || n > longest {
		return 0
	}
	return n
}

// carry moves n bytes, one by one, from where next tells them to where put takes them.
func carry(n int, next func() byte, put func(byte)) {
more:
	if n == 0 {
		return
	}
	put(next())
	n--
	goto more
}

// list is bytes that grow at their end.
type list []byte

func (l *list) add(b byte) { *l = append(*l, b) }

// digits is a number by its bytes, the lowest first.
type digits struct {
	v  uint64
	at int // the bits that were pushed
}

func (d *digits) pop() byte {
	b := byte(d.v)
	d.v >>= 8
	return b
}

func (d *digits) push(b byte) {
	d.v |= uint64(b) << d.at
	d.at += 8
}
