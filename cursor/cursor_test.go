package cursor_test

import (
	"bytes"
	"math"
	"testing"

	"shredder/api"
	"shredder/cursor"
)

// wrong: counts of bytes that no number has. words: numbers that are written and read.
var (
	wrong = []int{math.MinInt, -8, -1, 9, 16, 64, math.MaxInt}
	words = []uint64{0, 1, 127, 128, 255, 256, 258, 65535, 1 << 31, 1 << 32, 0x0102030405060708, 0xf0e0d0c0b0a09080, 1 << 63, math.MaxUint64}
)

// lowest keeps of a number its lowest n bytes.
func lowest(v uint64, n int) uint64 {
	if n == 8 {
		return v
	}
	return v % (1 << (8 * n))
}

// failed asks of a Reader all that holds from its first error on.
func failed(t *testing.T, what string, r *cursor.Reader, e api.Errno) {
	t.Helper()
	for range 2 {
		if got := r.End(); got != e {
			t.Errorf("%s: End %v, want %v", what, got, e)
		}
		if n := r.Left(); n != 0 {
			t.Errorf("%s: Left %d", what, n)
		}
		for _, n := range []int{-1, 0, 1, 2, 8, 9} {
			if v := r.Get(n); v != 0 {
				t.Errorf("%s: Get(%d) %d", what, n, v)
			}
			if b := r.Take(n); len(b) != 0 {
				t.Errorf("%s: Take(%d) %q", what, n, b)
			}
		}
		r.Fail(api.OK)
		r.Fail(api.ErrDeep)
	}
}

func TestP101PutLowestFirst(t *testing.T) {
	const v = 0xf1e2d3c4b5a69788
	all := []byte{0x88, 0x97, 0xa6, 0xb5, 0xc4, 0xd3, 0xe2, 0xf1}
	for n := 0; n <= 8; n++ {
		for _, b := range []string{"", "x", "some bytes ahead"} {
			want := b + string(all[:n])
			if got := cursor.Put([]byte(b), n, v); string(got) != want {
				t.Errorf("Put(%q, %d): %q, want %q", b, n, got, want)
			}
		}
	}
	if got := cursor.Put(nil, 2, 258); !bytes.Equal(got, []byte{2, 1}) {
		t.Errorf("example 1: %v", got)
	}
}

func TestP101PutOfNoWidth(t *testing.T) {
	for _, n := range append(wrong, 0) {
		for _, b := range []string{"", "abc"} {
			if got := cursor.Put([]byte(b), n, math.MaxUint64); string(got) != b {
				t.Errorf("Put(%q, %d): %q", b, n, got)
			}
		}
	}
}

func TestP101NewReadsFromTheBeginning(t *testing.T) {
	r := cursor.New([]byte("abc"))
	if r.Left() != 3 || r.End() != api.ErrMore || r.Get(1) != 'a' {
		t.Error("New does not begin at the first byte")
	}
	for _, b := range [][]byte{nil, {}} {
		r = cursor.New(b)
		if r.Left() != 0 || r.End() != api.OK || r.Get(0) != 0 || len(r.Take(0)) != 0 || r.End() != api.OK {
			t.Error("a Reader of nothing has an error")
		}
	}
}

func TestP101Get(t *testing.T) {
	all := []byte{0x88, 0x97, 0xa6, 0xb5, 0xc4, 0xd3, 0xe2, 0xf1, 'z'}
	for n := 0; n <= 8; n++ {
		r := cursor.New(all)
		if got, want := r.Get(n), lowest(0xf1e2d3c4b5a69788, n); got != want {
			t.Errorf("Get(%d): %x, want %x", n, got, want)
		}
		if r.Left() != 9-n || r.Get(1) != uint64(all[n]) {
			t.Errorf("Get(%d) does not read %d bytes", n, n)
		}
	}
}

func TestP101GetOfNoWidth(t *testing.T) {
	for _, n := range append(wrong, 0) {
		r := cursor.New([]byte("abcdefghijklmnop"))
		if v := r.Get(n); v != 0 || r.Left() != 16 {
			t.Errorf("Get(%d): %d, %d left", n, v, r.Left())
		}
		if r.Get(1) != 'a' {
			t.Errorf("Get(%d) read something", n)
		}
		r = cursor.New(nil)
		if r.Get(n) != 0 || r.End() != api.OK {
			t.Errorf("Get(%d) of nothing is an error", n)
		}
	}
}

func TestP101Take(t *testing.T) {
	for n := 0; n <= 6; n++ {
		r := cursor.New([]byte("abcdef"))
		if got := r.Take(n); string(got) != "abcdef"[:n] {
			t.Errorf("Take(%d): %q", n, got)
		}
		if r.Left() != 6-n || string(r.Take(6-n)) != "abcdef"[n:] || r.End() != api.OK {
			t.Errorf("Take(%d) does not read %d bytes", n, n)
		}
	}
	long := bytes.Repeat([]byte("0123456789"), 2000)
	if got := cursor.New(long).Take(len(long)); !bytes.Equal(got, long) {
		t.Error("Take of many bytes")
	}
}

func TestP101TakeOfLessThanNone(t *testing.T) {
	for _, n := range []int{math.MinInt, -9, -1} {
		r := cursor.New([]byte("abc"))
		if b := r.Take(n); len(b) != 0 || r.Left() != 3 || r.Get(1) != 'a' {
			t.Errorf("Take(%d): %q, %d left", n, b, r.Left())
		}
		r = cursor.New(nil)
		if len(r.Take(n)) != 0 || r.End() != api.OK {
			t.Errorf("Take(%d) of nothing is an error", n)
		}
	}
}

func TestP101TooFewLeft(t *testing.T) {
	for left := 0; left < 8; left++ {
		for n := left + 1; n <= 8; n++ {
			r := cursor.New([]byte("abcdefgh")[:left])
			if v := r.Get(n); v != 0 {
				t.Errorf("Get(%d) of %d: %d", n, left, v)
			}
			failed(t, "Get", r, api.ErrCut)
		}
		for _, n := range []int{left + 1, 100, math.MaxInt} {
			r := cursor.New([]byte("xabcdefgh")[:left+1])
			r.Get(1)
			if b := r.Take(n); len(b) != 0 {
				t.Errorf("Take(%d) of %d: %q", n, left, b)
			}
			failed(t, "Take", r, api.ErrCut)
		}
	}
}

func TestP101Left(t *testing.T) {
	r := cursor.New(make([]byte, 20))
	want := 20
	for _, n := range []int{1, 0, 8, 3} {
		r.Get(n)
		want -= n
		if r.Left() != want {
			t.Errorf("behind Get(%d): %d left, want %d", n, r.Left(), want)
		}
	}
	for _, n := range []int{5, -2, 0, 3} {
		r.Take(n)
		want -= max(n, 0)
		if r.Left() != want {
			t.Errorf("behind Take(%d): %d left, want %d", n, r.Left(), want)
		}
	}
}

func TestP101Fail(t *testing.T) {
	for e := api.ErrArg; e <= api.ErrSum; e++ {
		r := cursor.New([]byte("abcdef"))
		r.Get(2)
		r.Fail(e)
		failed(t, "Fail", r, e)
		r = cursor.New(nil)
		r.Fail(e)
		failed(t, "Fail of nothing", r, e)
	}
	for _, e := range []api.Errno{-1, 99} {
		r := cursor.New([]byte("a"))
		r.Fail(e)
		failed(t, "Fail of no known error", r, e)
	}
}

func TestP101FailWithOK(t *testing.T) {
	r := cursor.New([]byte("abc"))
	r.Fail(api.OK)
	if r.Left() != 3 || r.End() != api.ErrMore || r.Get(1) != 'a' {
		t.Error("Fail(OK) did something")
	}
	r.Fail(api.OK)
	if string(r.Take(2)) != "bc" || r.End() != api.OK {
		t.Error("Fail(OK) did something")
	}
	r.Fail(api.OK)
	if r.End() != api.OK {
		t.Error("Fail(OK) is an error")
	}
}

func TestP101TheFirstErrorStays(t *testing.T) {
	r := cursor.New([]byte("abc"))
	r.Take(4)
	r.Fail(api.ErrBad)
	failed(t, "ErrCut first", r, api.ErrCut)
	r = cursor.New([]byte("abc"))
	r.Fail(api.ErrBad)
	r.Take(4)
	r.Get(8)
	failed(t, "ErrBad first", r, api.ErrBad)
}

func TestP101End(t *testing.T) {
	r := cursor.New([]byte("abc"))
	if r.End() != api.ErrMore || r.End() != api.ErrMore {
		t.Error("End with bytes left")
	}
	// To be asked is no error: the bytes that are left may still be read (P5).
	if r.Left() != 3 || string(r.Take(3)) != "abc" {
		t.Error("End stops the reading")
	}
	if r.End() != api.OK || r.End() != api.OK {
		t.Error("End with nothing left")
	}
	r.Get(1)
	if r.End() != api.ErrCut {
		t.Error("End behind an error")
	}
}

func TestP102WhatWasWritten(t *testing.T) {
	for n := 0; n <= 8; n++ {
		for _, v := range words {
			r := cursor.New(cursor.Put(nil, n, v))
			if got, want := r.Get(n), lowest(v, n); got != want || r.End() != api.OK {
				t.Errorf("%d bytes of %x: %x, %v", n, v, got, r.End())
			}
		}
	}
}

func TestP102OneBehindTheOther(t *testing.T) {
	var b []byte
	for i, v := range words {
		b = cursor.Put(b, i%9, v)
		b = append(b, "tail"[:i%5]...)
		b = cursor.Put(b, 8, v)
	}
	r := cursor.New(b)
	for i, v := range words {
		if got := r.Get(i % 9); got != lowest(v, i%9) {
			t.Errorf("word %d: %x", i, got)
		}
		if got := r.Take(i % 5); string(got) != "tail"[:i%5] {
			t.Errorf("bytes %d: %q", i, got)
		}
		if got := r.Get(8); got != v {
			t.Errorf("word %d: %x, want %x", i, got, v)
		}
	}
	if r.Left() != 0 || r.End() != api.OK {
		t.Errorf("%d left, %v", r.Left(), r.End())
	}
}

func TestP2PutLeavesItsArgument(t *testing.T) {
	for _, n := range []int{-1, 0, 1, 3, 8, 9} {
		room := []byte("ab--------------")
		b := room[:2]
		got := cursor.Put(b, n, math.MaxUint64)
		if string(room) != "ab--------------" {
			t.Errorf("Put(%d) wrote into its argument: %q", n, room)
		}
		all := got[:cap(got)]
		for i := range all {
			all[i] = '!'
		}
		if string(room) != "ab--------------" {
			t.Errorf("Put(%d) answers with memory of its argument: %q", n, room)
		}
	}
}

func TestP2TheReaderKeepsNothing(t *testing.T) {
	room := []byte("abcdefgh--------")
	b := room[:8]
	r := cursor.New(b)
	copy(room, "zzzzzzzzzzzzzzzz")
	if r.Get(2) != 'a'+'b'<<8 || string(r.Take(2)) != "cd" || r.Left() != 4 {
		t.Error("New keeps its argument")
	}
	first, second := r.Take(1), r.Take(1)
	for _, x := range [][]byte{first, second} {
		x = x[:cap(x)]
		for i := range x {
			x[i] = '!'
		}
	}
	if string(r.Take(2)) != "gh" || r.End() != api.OK {
		t.Error("Take answers with memory that the Reader reads")
	}
	if string(room) != "zzzzzzzzzzzzzzzz" {
		t.Error("the argument of New was written into")
	}
}

func TestP2TakesShareNothing(t *testing.T) {
	r := cursor.New([]byte("abcdef"))
	first := r.Take(3)
	second := r.Take(3)
	_ = append(first, "!!!!"...)
	first[0] = '?'
	if string(second) != "def" {
		t.Errorf("one Take is written into by another's: %q", second)
	}
}

func TestP7ReadersDoNotAffectOneAnother(t *testing.T) {
	b := []byte("abcdef")
	x, y := cursor.New(b), cursor.New(b)
	if x == y {
		t.Fatal("New answers twice with one object")
	}
	if x.Get(1) != 'a' || y.Left() != 6 || string(y.Take(3)) != "abc" || x.Left() != 5 {
		t.Error("reading one moves the other")
	}
	z := cursor.New(b)
	x.Fail(api.ErrBad)
	if y.Left() != 3 || y.End() != api.ErrMore || z.Left() != 6 || z.End() != api.ErrMore {
		t.Error("an error of one is another's")
	}
	y.Take(9)
	if x.End() != api.ErrBad || y.End() != api.ErrCut || string(z.Take(6)) != "abcdef" || z.End() != api.OK {
		t.Error("an error of one is another's")
	}
}

func TestP3TheSameCalls(t *testing.T) {
	b := cursor.Put([]byte("abc"), 4, 77)
	if !bytes.Equal(b, cursor.Put([]byte("abc"), 4, 77)) {
		t.Error("Put")
	}
	x, y := cursor.New(b), cursor.New(b)
	for n := -1; n < 10; n++ {
		if x.Get(n) != y.Get(n) || !bytes.Equal(x.Take(n), y.Take(n)) || x.Left() != y.Left() || x.End() != y.End() {
			t.Errorf("two Readers differ at %d", n)
		}
	}
}
