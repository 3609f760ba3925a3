package bits_test

import (
	"bytes"
	"math"
	"slices"
	"testing"

	"shredder/api"
	"shredder/bits"
)

// wrong: widths that no number has. counts: how many numbers are packed at once.
var (
	wrong  = []int{math.MinInt, -64, -8, -1, 65, 72, 128, math.MaxInt}
	counts = []int{0, 1, 2, 3, 7, 8, 9, 15, 16, 17, 63, 64, 65, 200}
)

// numbers are n numbers in whose bits there is no order to be seen; the first ones are edges.
func numbers(n int) []uint64 {
	l := []uint64{math.MaxUint64, 0, 1, 1 << 63, math.MaxInt64, 0xaaaaaaaaaaaaaaaa}
	for v := uint64(88172645463325252); len(l) < n; l = append(l, v) {
		v ^= v << 13
		v ^= v >> 7
		v ^= v << 17
	}
	return l[:n]
}

// lowest keeps of each number its lowest width bits.
func lowest(l []uint64, width int) []uint64 {
	var out []uint64
	for _, v := range l {
		if width < 64 {
			v %= 1 << width
		}
		out = append(out, v)
	}
	return out
}

// digits writes bits as text, the earliest first.
func digits(l []uint64, width int) string {
	var out []byte
	for _, v := range l {
		for range width {
			out = append(out, '0'+byte(v%2))
			v /= 2
		}
	}
	return string(out)
}

// octets writes the bits of bytes as text, the earliest first.
func octets(b []byte) string {
	var l []uint64
	for _, x := range b {
		l = append(l, uint64(x))
	}
	return digits(l, 8)
}

func TestP201Width(t *testing.T) {
	for v, want := range map[uint64]int{0: 0, 1: 1, 2: 2, 3: 2, 4: 3, 7: 3, 8: 4, 127: 7, 128: 8, 255: 8, 256: 9, math.MaxInt64: 63, math.MaxUint64: 64} {
		if got := bits.Width(v); got != want {
			t.Errorf("Width(%d): %d, want %d", v, got, want)
		}
	}
	for k := range 64 {
		v := uint64(1) << k
		if got := bits.Width(v); got != k+1 {
			t.Errorf("Width(%x): %d", v, got)
		}
		if got := bits.Width(v - 1); got != k {
			t.Errorf("Width(%x): %d", v-1, got)
		}
		if got := bits.Width(v | (v - 1)); got != k+1 {
			t.Errorf("Width(%x): %d", v|(v-1), got)
		}
	}
}

func TestP201Pack(t *testing.T) {
	for _, x := range []struct {
		l     []uint64
		width int
		want  string
	}{
		{[]uint64{1, 2, 3}, 2, "\x39"},
		{nil, 7, ""},
		{[]uint64{1}, 1, "\x01"},
		{[]uint64{0, 0, 0, 0, 0, 0, 0, 1}, 1, "\x80"},
		{[]uint64{0, 0, 0, 0, 0, 0, 0, 0, 1}, 1, "\x00\x01"},
		{[]uint64{0x12, 0x34}, 8, "\x12\x34"},
		{[]uint64{0xabc, 0x123}, 12, "\xbc\x3a\x12"},
		{[]uint64{0x0102030405060708}, 64, "\x08\x07\x06\x05\x04\x03\x02\x01"},
		{[]uint64{1, 0x0102030405060708}, 60, "\x01\x00\x00\x00\x00\x00\x00\x80\x70\x60\x50\x40\x30\x20\x10"},
	} {
		if got := bits.Pack(x.l, x.width); string(got) != x.want {
			t.Errorf("Pack(%x, %d): %x, want %x", x.l, x.width, got, x.want)
		}
	}
}

func TestP201PackBitByBit(t *testing.T) {
	for width := range 65 {
		for _, n := range counts {
			l := numbers(n)
			got, want := octets(bits.Pack(l, width)), digits(l, width)
			for len(want)%8 > 0 {
				want += "0"
			}
			if got != want {
				t.Errorf("Pack of %d numbers of %d bits:\n%s, want\n%s", n, width, got, want)
			}
		}
	}
}

func TestP201PackTakesTheLowestBits(t *testing.T) {
	for width := range 65 {
		l := numbers(50)
		if got, want := bits.Pack(l, width), bits.Pack(lowest(l, width), width); !bytes.Equal(got, want) {
			t.Errorf("width %d: the higher bits are to be seen", width)
		}
	}
}

func TestP201PackOfNoWidth(t *testing.T) {
	for _, width := range append(wrong, 0) {
		for _, n := range counts {
			if got := bits.Pack(numbers(n), width); len(got) != 0 {
				t.Errorf("Pack of %d numbers of %d bits: %x", n, width, got)
			}
		}
	}
}

func TestP201PackOfMoreThanIsUnpacked(t *testing.T) {
	l := numbers(api.MaxCells + 1000)
	for _, width := range []int{1, 13, 64} {
		b := bits.Pack(l, width)
		if len(b) != (len(l)*width+7)/8 {
			t.Fatalf("width %d: %d bytes", width, len(b))
		}
		head, e := bits.Unpack(b[:500*width], api.MaxCells, width)
		if e != api.OK || !slices.Equal(head, lowest(l[:api.MaxCells], width)) {
			t.Errorf("width %d: %v", width, e)
		}
	}
}

func TestP201Unpack(t *testing.T) {
	for _, x := range []struct {
		b        string
		n, width int
		want     []uint64
	}{
		{"\x39", 3, 2, []uint64{1, 2, 3}},
		{"", 0, 0, nil},
		{"", 0, 64, nil},
		{"", 5, 0, []uint64{0, 0, 0, 0, 0}},
		{"\x85", 8, 1, []uint64{1, 0, 1, 0, 0, 0, 0, 1}},
		{"\xbc\x3a\x12", 2, 12, []uint64{0xabc, 0x123}},
		{"\xff\xff\xff\xff\xff\xff\xff\xff\xfe\xff\xff\xff\xff\xff\xff\xff", 2, 64, []uint64{math.MaxUint64, math.MaxUint64 - 1}},
	} {
		got, e := bits.Unpack([]byte(x.b), x.n, x.width)
		if e != api.OK || !slices.Equal(got, x.want) {
			t.Errorf("Unpack(%x, %d, %d): %x, %v", x.b, x.n, x.width, got, e)
		}
	}
}

func TestP201UnpackErrArg(t *testing.T) {
	for _, b := range []string{"", "abc"} {
		for _, x := range [][2]int{{-1, 3}, {math.MinInt, 0}, {api.MaxCells + 1, 0}, {api.MaxCells + 1, 8}, {1 << 62, 64}, {math.MaxInt, 1}, {-1, -1}, {-1, 65}} {
			if l, e := bits.Unpack([]byte(b), x[0], x[1]); e != api.ErrArg || len(l) != 0 {
				t.Errorf("Unpack(%q, %d, %d): %d numbers, %v", b, x[0], x[1], len(l), e)
			}
		}
		for _, width := range wrong {
			for _, n := range []int{0, 1, 3, api.MaxCells} {
				if l, e := bits.Unpack([]byte(b), n, width); e != api.ErrArg || len(l) != 0 {
					t.Errorf("Unpack(%q, %d, %d): %d numbers, %v", b, n, width, len(l), e)
				}
			}
		}
	}
}

func TestP201UnpackErrCut(t *testing.T) {
	for width := 1; width <= 64; width++ {
		for _, n := range counts[1:] {
			// All bits are 1: fewer bytes come ahead of bits behind the numbers.
			b := bytes.Repeat([]byte{255}, (n*width+7)/8)
			for _, left := range []int{0, len(b) / 2, len(b) - 1} {
				if l, e := bits.Unpack(b[:left], n, width); e != api.ErrCut || len(l) != 0 {
					t.Errorf("%d of %d bytes, %d numbers of %d bits: %d numbers, %v", left, len(b), n, width, len(l), e)
				}
			}
		}
	}
}

func TestP201UnpackErrMore(t *testing.T) {
	for width := range 65 {
		for _, n := range counts {
			b := bits.Pack(numbers(n), width)
			for _, tail := range []string{"\x00", "\xff", "more"} {
				long := append(bytes.Clone(b), tail...)
				if l, e := bits.Unpack(long, n, width); e != api.ErrMore || len(l) != 0 {
					t.Errorf("%d numbers of %d bits and %q: %d numbers, %v", n, width, tail, len(l), e)
				}
			}
		}
	}
	// More bytes come ahead of bits behind the numbers.
	if _, e := bits.Unpack([]byte{255, 0}, 3, 2); e != api.ErrMore {
		t.Errorf("ErrMore and ErrBad: %v", e)
	}
}

func TestP201UnpackErrBad(t *testing.T) {
	for width := range 65 {
		for _, n := range counts {
			b := bits.Pack(numbers(n), width)
			for at := n * width; at < len(b)*8; at++ {
				bad := bytes.Clone(b)
				bad[at/8] |= 1 << (at % 8)
				if l, e := bits.Unpack(bad, n, width); e != api.ErrBad || len(l) != 0 {
					t.Errorf("%d numbers of %d bits, bit %d: %d numbers, %v", n, width, at, len(l), e)
				}
			}
		}
	}
}

func TestP202WhatWasPacked(t *testing.T) {
	for width := range 65 {
		for _, n := range append(counts, api.MaxCells-1, api.MaxCells) {
			l := numbers(n)
			got, e := bits.Unpack(bits.Pack(l, width), n, width)
			if e != api.OK || !slices.Equal(got, lowest(l, width)) {
				t.Errorf("%d numbers of %d bits: %v, %x", n, width, e, got)
			}
		}
	}
}

// Whatever two bytes are read, they are what Pack makes of the numbers.
func TestP202WhatWasUnpacked(t *testing.T) {
	for x := range 1 << 16 {
		b := []byte{byte(x), byte(x >> 8)}
		for width, n := range map[int]int{1: 16, 2: 8, 3: 5, 5: 3, 7: 2, 11: 1, 16: 1} {
			l, e := bits.Unpack(b, n, width)
			if x>>(n*width) > 0 {
				if e != api.ErrBad {
					t.Fatalf("%x, %d numbers of %d bits: %v", x, n, width, e)
				}
				continue
			}
			if e != api.OK || !bytes.Equal(bits.Pack(l, width), b) {
				t.Fatalf("%x, %d numbers of %d bits: %x, %v", x, n, width, l, e)
			}
		}
	}
}

func TestP2ArgumentsAreLeft(t *testing.T) {
	room := numbers(20)
	for _, width := range []int{-1, 0, 1, 7, 64, 65} {
		bits.Pack(room[:5], width)
		if !slices.Equal(room, numbers(20)) {
			t.Fatalf("Pack writes into its argument at width %d", width)
		}
	}
	b := []byte("\x39-------")
	for _, n := range []int{-1, 2, 3, 4, 5} {
		bits.Unpack(b[:1], n, 2)
		if string(b) != "\x39-------" {
			t.Fatalf("Unpack writes into its argument at %d numbers", n)
		}
	}
}

func TestP2ResultsAreNew(t *testing.T) {
	l := numbers(4)
	b := bits.Pack(l, 64)
	back, _ := bits.Unpack(b, 4, 64)
	want := bytes.Clone(b)
	again := bits.Pack(l, 64)
	clear(again[:cap(again)])
	clear(l)
	if !bytes.Equal(b, want) {
		t.Error("what Pack answers changes with its argument, or with another answer")
	}
	other, _ := bits.Unpack(b, 4, 64)
	clear(other[:cap(other)])
	clear(b)
	if !slices.Equal(back, numbers(4)) {
		t.Error("what Unpack answers changes with its argument, or with another answer")
	}
	if !bytes.Equal(b, make([]byte, 32)) {
		t.Error("what Unpack answers is its argument's memory")
	}
}

func TestP3TheSameCalls(t *testing.T) {
	l := numbers(100)
	for width := -1; width <= 65; width++ {
		b := bits.Pack(l, width)
		x, e := bits.Unpack(b, 100, width)
		y, f := bits.Unpack(bits.Pack(l, width), 100, width)
		if !bytes.Equal(b, bits.Pack(l, width)) || !slices.Equal(x, y) || e != f {
			t.Errorf("two calls of width %d differ", width)
		}
	}
}
