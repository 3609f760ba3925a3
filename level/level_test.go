package level_test

import (
	"encoding/binary"
	"math"
	"slices"
	"strings"
	"testing"

	"shredder/api"
	"shredder/level"
)

// of are levels; times are n times the level v; joined are lists, one behind the other.
func of(l ...int) []int { return l }

func times(n, v int) []int { return slices.Repeat(of(v), n) }

func joined(l ...[]int) []int { return slices.Concat(l...) }

// turns are n levels, in turn from 0 on below k.
func turns(n, k int) (l []int) {
	for i := range n {
		l = append(l, i%k)
	}
	return l
}

// printed are levels and what they are as bytes, worked out by hand.
var printed = []struct {
	l     []int
	width int
	b     string
}{
	{nil, 1, ""},
	{nil, 16, ""},
	// Runs: eight or more that are equal, or all that are left.
	{times(10, 1), 1, "\x14\x01"},
	{of(0), 1, "\x02\x00"},
	{of(1), 1, "\x02\x01"},
	{of(1, 1), 1, "\x04\x01"},
	{times(7, 3), 2, "\x0e\x03"},
	{times(8, 3), 2, "\x10\x03"},
	{times(9, 3), 2, "\x12\x03"},
	{times(63, 0), 5, "\x7e\x00"},
	{times(64, 0), 5, "\x80\x01\x00"},
	{times(4000, 1), 1, "\xc0\x3e\x01"},
	{joined(times(8, 0), times(8, 1), times(9, 2)), 2, "\x10\x00\x10\x01\x12\x02"},
	{joined(times(8, 0), of(1)), 1, "\x10\x00\x02\x01"},
	{joined(times(8, 0), times(7, 1)), 1, "\x10\x00\x0e\x01"},
	// The value of a run has whole bytes, the lowest first.
	{times(2, 255), 8, "\x04\xff"},
	{times(2, 1), 9, "\x04\x01\x00"},
	{times(2, 511), 9, "\x04\xff\x01"},
	{times(2, 0x1234), 16, "\x04\x34\x12"},
	{times(2, 0xffff), 16, "\x04\xff\xff"},
	// Groups: eight values each, zeros behind the last one.
	{of(0, 1), 1, "\x03\x02"},
	{of(1, 2, 3), 2, "\x03\x39\x00"},
	{turns(8, 8), 3, "\x03\x88\xc6\xfa"},
	{joined(times(7, 1), of(0)), 1, "\x03\x7f"},
	{joined(of(0), times(7, 1)), 1, "\x03\xfe"},
	{of(0, 0x1234), 16, "\x03\x00\x00\x34\x12" + strings.Repeat("\x00", 12)},
	{of(0x1ff, 1), 9, "\x03\xff\x03\x00\x00\x00\x00\x00\x00\x00"},
	{turns(16, 2), 1, "\x05\xaa\xaa"},
	{turns(20, 2), 1, "\x07\xaa\xaa\x0a"},
	{turns(24, 2), 1, "\x07\xaa\xaa\xaa"},
	{turns(512, 2), 1, "\x81\x01" + strings.Repeat("\xaa", 64)},
	// A run ends groups only behind a whole one of them.
	{joined(turns(8, 2), times(8, 1)), 1, "\x03\xaa\x10\x01"},
	{joined(turns(8, 2), times(8, 1), of(0)), 1, "\x03\xaa\x10\x01\x02\x00"},
	{joined(turns(8, 2), times(7, 1), of(0)), 1, "\x05\xaa\x7f"},
	{joined(turns(8, 2), times(3, 0)), 1, "\x03\xaa\x06\x00"},
	{joined(turns(8, 2), of(1)), 1, "\x03\xaa\x02\x01"},
	{joined(of(1), times(15, 0), of(1)), 1, "\x03\x01\x10\x00\x02\x01"},
	{joined(of(1), times(14, 0), of(1)), 1, "\x05\x01\x80"},
	{joined(of(1), times(20, 0)), 1, "\x03\x01\x1a\x00"},
	{joined(of(1), times(20, 0), of(1)), 1, "\x03\x01\x1a\x00\x02\x01"},
	{joined(of(1), times(7, 0)), 1, "\x03\x01"},
	{joined(of(1), times(8, 0)), 1, "\x03\x01\x02\x00"},
	// From a run on, groups begin anew.
	{joined(times(9, 1), turns(8, 2)), 1, "\x12\x01\x03\xaa"},
	{joined(times(8, 2), turns(8, 2), times(8, 1), turns(9, 3)), 2, "\x10\x02\x03\x44\x44\x10\x01\x03\x24\x49\x02\x02"},
}

// equal is how many levels at the front are equal.
func equal(l []int) (n int) {
	for n < len(l) && l[n] == l[0] {
		n++
	}
	return n
}

// isRun tells, by the words of Encode, whether a run would be written.
func isRun(l []int) bool { return equal(l) >= 8 || equal(l) == len(l) }

// written is Encode by its words.
func written(l []int, width int) (b []byte) {
	for width > 0 && len(l) > 0 {
		if isRun(l) {
			n := equal(l)
			b = binary.AppendUvarint(b, uint64(2*n))
			for at := 0; at < width; at += 8 {
				b = append(b, byte(l[0]>>at))
			}
			l = l[n:]
			continue
		}
		var packed []byte
		many := 0
		for many == 0 || len(l) > 0 && !isRun(l) {
			n := min(8, len(l))
			packed = append(packed, group(l[:n], width)...)
			l = l[n:]
			many++
		}
		b = append(binary.AppendUvarint(b, uint64(2*many+1)), packed...)
	}
	return b
}

// group packs up to eight levels, bit by bit.
func group(l []int, width int) []byte {
	b := make([]byte, width)
	for i, v := range l {
		for k := range width {
			at := i*width + k
			b[at/8] |= byte(v>>k&1) << (at % 8)
		}
	}
	return b
}

// reading reads by the words of Decode; what is wrong is a panic of its error.
type reading struct{ b []byte }

func (r *reading) take(n int) []byte {
	if n > len(r.b) {
		panic(api.ErrCut)
	}
	b := r.b[:n]
	r.b = r.b[n:]
	return b
}

func (r *reading) varint() (v uint64) {
	for i := 0; ; i++ {
		c := r.take(1)[0]
		v |= uint64(c&127) << (7 * i)
		switch {
		case i == 9 && c > 1:
			panic(api.ErrOver)
		case c >= 128:
		case c == 0 && i > 0:
			panic(api.ErrBad)
		default:
			return v
		}
	}
}

// run, groups read what is behind the front of them, where so many levels are left.
func (r *reading) run(many uint64, left, width int) []int {
	if many == 0 || many > uint64(left) {
		panic(api.ErrBad)
	}
	v := 0
	for i, c := range r.take((width + 7) / 8) {
		v += int(c) << (8 * i)
	}
	if v > 1<<width-1 {
		panic(api.ErrBad)
	}
	return times(int(many), v)
}

func (r *reading) groups(many uint64, left, width int) (l []int) {
	if many == 0 || many > 1000 || (int(many)-1)*8 >= left {
		panic(api.ErrBad)
	}
	b := r.take(int(many) * width)
	for i := range int(many) * 8 {
		v := 0
		for k := range width {
			at := i*width + k
			v |= int(b[at/8]>>(at%8)&1) << k
		}
		if i >= left && v != 0 {
			panic(api.ErrBad)
		}
		l = append(l, v)
	}
	return l[:min(len(l), left)]
}

// read is Decode by its words, for a number of levels and a width that may be.
func read(b []byte, n, width int) (l []int, e api.Errno) {
	defer func() {
		if wrong, ok := recover().(api.Errno); ok {
			l, e = nil, wrong
		}
	}()
	r := reading{b}
	if width == 0 {
		l = times(n, 0)
	}
	for len(l) < n {
		v := r.varint()
		if v%2 == 0 {
			l = append(l, r.run(v/2, n-len(l), width)...)
		} else {
			l = append(l, r.groups(v/2, n-len(l), width)...)
		}
	}
	if len(r.b) > 0 {
		panic(api.ErrMore)
	}
	return l, api.OK
}

// mix tells numbers in whose bits there is no order to be seen.
type mix uint64

const seed = mix(88172645463325252)

func (m *mix) below(n int) int {
	*m ^= *m << 13
	*m ^= *m >> 7
	*m ^= *m << 17
	return int(*m >> 1 % mix(n))
}

// levels are up to n levels of a width; many of them are equal to the one ahead.
func (m *mix) levels(n, width int) (l []int) {
	n = m.below(n + 1)
	few := 1 + m.below(1<<width)
	for len(l) < n {
		many := 1
		if m.below(3) == 0 {
			many = 1 + m.below(20)
		}
		l = append(l, times(many, m.below(few))...)
	}
	return l[:n]
}

// spoil changes bytes a little.
func (m *mix) spoil(b []byte) []byte {
	at := m.below(len(b) + 1)
	switch m.below(4) {
	case 0:
		return slices.Clone(b[:at])
	case 1:
		return slices.Insert(slices.Clone(b), at, byte(m.below(256)))
	case 2:
		return slices.Delete(slices.Clone(b), at, min(at+1, len(b)))
	}
	b = slices.Clone(b)
	if at < len(b) {
		b[at] ^= 1 << m.below(8)
	}
	return b
}

// wantBytes, wantLevels, wantError ask for what Encode and Decode answer.
func wantBytes(t *testing.T, l []int, width int, want string) {
	t.Helper()
	if got := level.Encode(l, width); string(got) != want {
		t.Errorf("Encode(%v, %d): %x, want %x", l, width, got, want)
	}
}

func wantLevels(t *testing.T, b string, width int, want []int) {
	t.Helper()
	if got, e := level.Decode([]byte(b), len(want), width); e != api.OK || !slices.Equal(got, want) {
		t.Errorf("Decode(%x, %d, %d): %v, %v, want %v", b, len(want), width, got, e, want)
	}
}

func wantError(t *testing.T, b string, n, width int, want api.Errno) {
	t.Helper()
	if got, e := level.Decode([]byte(b), n, width); e != want || len(got) != 0 {
		t.Errorf("Decode(%x, %d, %d): %v, %v, want %v", b, n, width, got, e, want)
	}
}

// wantAsRead asks for what the words of Decode tell.
func wantAsRead(t *testing.T, b []byte, n, width int) api.Errno {
	t.Helper()
	want, wrong := read(b, n, width)
	if got, e := level.Decode(b, n, width); e != wrong || !slices.Equal(got, want) {
		t.Errorf("Decode(%x, %d, %d): %v, %v, want %v, %v", b, n, width, got, e, want, wrong)
	}
	return wrong
}

func TestP1001ByHand(t *testing.T) {
	for _, x := range printed {
		wantBytes(t, x.l, x.width, x.b)
	}
}

func TestP1001NoWidth(t *testing.T) {
	for _, n := range []int{0, 1, 7, 8, 9, 4000, 5000} {
		wantBytes(t, times(n, 0), 0, "")
	}
}

func TestP1001Runs(t *testing.T) {
	for width := 1; width <= 16; width++ {
		for _, n := range []int{1, 2, 7, 8, 9, 63, 64, 65, 4000, 8191, 8192, 100000} {
			for _, v := range []int{0, 1, 1<<width - 1} {
				want := binary.AppendUvarint(nil, uint64(2*n))
				want = append(want, byte(v))
				if width > 8 {
					want = append(want, byte(v>>8))
				}
				wantBytes(t, times(n, v), width, string(want))
			}
		}
	}
}

func TestP1001EveryShortList(t *testing.T) {
	for n := range 20 {
		l := make([]int, n)
		for x := range 1 << n {
			for i := range l {
				l[i] = x >> i & 1
			}
			if got, want := level.Encode(l, 1), written(l, 1); !slices.Equal(got, want) {
				t.Fatalf("Encode(%v, 1): %x, want %x", l, got, want)
			}
		}
	}
}

func TestP1001ByItsWords(t *testing.T) {
	m := seed
	for i := range 20000 {
		width := 1 + i%16
		l := m.levels(120, width)
		wantBytes(t, l, width, string(written(l, width)))
	}
}

func TestP1001MoreThanIsDecoded(t *testing.T) {
	// Nothing bounds how many levels are written; as many as these take long, if each part costs as much as all ahead of it.
	for _, l := range [][]int{
		turns(1<<20, 2),
		turns(1<<20+5, 3),
		slices.Repeat(joined(times(8, 0), times(8, 1)), 1<<16),
		slices.Repeat(joined(turns(8, 3), times(9, 1)), 1<<16),
		joined(of(1), times(1<<20, 0), of(1)),
		slices.Repeat(joined(of(1), times(14, 0), of(1)), 1<<16),
	} {
		if got, want := level.Encode(l, 2), written(l, 2); !slices.Equal(got, want) {
			t.Errorf("Encode of %d levels: %d bytes, want %d", len(l), len(got), len(want))
		}
	}
}

func TestP1002ByHand(t *testing.T) {
	for _, x := range printed {
		wantLevels(t, x.b, x.width, x.l)
	}
}

func TestP1002WhatIsNotEncoded(t *testing.T) {
	// Runs and groups need not be those that Encode writes.
	for _, x := range []struct {
		b     string
		width int
		want  []int
	}{
		{"\x02\x01\x02\x01", 1, of(1, 1)},
		{"\x04\x01\x06\x00", 1, of(1, 1, 0, 0, 0)},
		{"\x10\x01\x10\x01", 1, times(16, 1)},
		{"\x03\xff", 1, times(8, 1)},
		{"\x03\x00", 1, times(8, 0)},
		{"\x03\x01", 1, of(1)},
		{"\x03\x00", 1, of(0)},
		{"\x03\x01\x03\x02", 1, of(1, 0, 0, 0, 0, 0, 0, 0, 0, 1)},
		{"\x05\xff\xff", 1, times(16, 1)},
		{"\x02\x01\x03\x02\x00\x04\x03", 2, of(1, 2, 0, 0, 0, 0, 0, 0, 0, 3, 3)},
		{"\x03\xaa\x02\x01\x05\x55\x01", 1, joined(turns(8, 2), of(1), of(1, 0, 1, 0, 1, 0, 1, 0, 1))},
	} {
		wantLevels(t, x.b, x.width, x.want)
	}
}

func TestP1002ErrArg(t *testing.T) {
	for _, b := range []string{"", "\x00", "\x14\x01", "\xff", "\x80\x00"} {
		for _, n := range []int{math.MinInt, -4000, -1, 4001, 4008, 1 << 32, math.MaxInt} {
			for width := range 17 {
				wantError(t, b, n, width, api.ErrArg)
			}
			wantError(t, b, n, -1, api.ErrArg)
			wantError(t, b, n, 17, api.ErrArg)
		}
		for _, width := range []int{math.MinInt, -16, -1, 17, 32, 64, 65, 1 << 32, math.MaxInt} {
			for _, n := range []int{0, 1, 10, 4000} {
				wantError(t, b, n, width, api.ErrArg)
			}
		}
	}
}

func TestP1002NoWidth(t *testing.T) {
	for _, n := range []int{0, 1, 7, 8, 9, 3999, 4000} {
		wantLevels(t, "", 0, times(n, 0))
		for _, b := range []string{"\x00", "\x02", "\x02\x00", "\x80\x00", "\xff", "\x03"} {
			wantError(t, b, n, 0, api.ErrMore)
		}
	}
}

func TestP1002NoLevels(t *testing.T) {
	for width := range 17 {
		wantLevels(t, "", width, nil)
		for _, b := range []string{"\x00", "\x00\x00", "\x01", "\x02\x00", "\x03\x00", "\x80", "\x80\x00", "\xff\xff\xff\xff\xff\xff\xff\xff\xff\xff"} {
			wantError(t, b, 0, width, api.ErrMore)
		}
	}
}

func TestP1002Varints(t *testing.T) {
	for b, want := range map[string]api.Errno{
		"":                                     api.ErrCut,
		"\x80":                                 api.ErrCut,
		"\x83\xff":                             api.ErrCut,
		"\x80\x80\x80\x80\x80\x80\x80\x80\x80": api.ErrCut,
		"\x80\x00":                             api.ErrBad,
		"\x82\x00":                             api.ErrBad,
		"\x83\x80\x00":                         api.ErrBad,
		"\x80\x80\x80\x80\x80\x80\x80\x80\x80\x00": api.ErrBad,
		"\x80\x80\x80\x80\x80\x80\x80\x80\x80\x02": api.ErrOver,
		"\xff\xff\xff\xff\xff\xff\xff\xff\xff\xff": api.ErrOver,
	} {
		for _, ahead := range []string{"", "\x02\x01", "\x03\x05", "\x02\x00\x03\x07"} {
			wantError(t, ahead+b, 20, 1, want)
			if want != api.ErrCut {
				wantError(t, ahead+b+"\x02\x01", 20, 1, want)
			}
		}
	}
}

// great are numbers far above what may be there: of values or groups, some of them with eight or two times so many beyond 64 bits.
var great = []uint64{1 << 31, 1 << 32, 1<<32 + 1, 1 << 58, 1<<58 + 1, 1 << 60, 1<<60 + 1, 1 << 61, 1<<61 + 1, 1 << 62, 1<<62 + 1, 1<<63 - 2, 1<<63 - 1}

func TestP1002HowManyOfARun(t *testing.T) {
	behind := func(v uint64, width int) {
		t.Helper()
		b := string(binary.AppendUvarint(nil, v))
		for _, b := range []string{b, b + "\x01", b + "\x01\x00", b + strings.Repeat("\xff", 100)} {
			// It is found ahead of bytes that lack and of a value that is too great.
			wantError(t, b, 10, width, api.ErrBad)
			wantError(t, "\x02"+strings.Repeat("\x00", (width+7)/8)+b, 11, width, api.ErrBad)
		}
	}
	for _, width := range []int{1, 7, 8, 9, 16} {
		behind(0, width)
		for _, many := range append(great, 11, 12, 4000, 4001) {
			behind(2*many, width)
		}
	}
	wantLevels(t, "\x14\x01", 1, times(10, 1))
	wantLevels(t, "\xc0\x3e\x01", 1, times(4000, 1))
	wantError(t, "\xc2\x3e\x01", 4000, 1, api.ErrBad)
	wantError(t, "\x02\x01\xc0\x3e\x01", 4000, 1, api.ErrBad)
	wantLevels(t, "\x02\x01\xbe\x3e\x01", 1, times(4000, 1))
}

func TestP1002ValueOfARun(t *testing.T) {
	for width := 1; width <= 16; width++ {
		size := (width + 7) / 8
		for _, v := range []int{0, 1, 1<<width - 1, 1 << width, 1<<width + 1, 1 << (8*size - 1), 1<<(8*size) - 1} {
			value := string([]byte{byte(v), byte(v >> 8)}[:size])
			if v >= 1<<(8*size) {
				continue
			}
			if v < 1<<width {
				wantLevels(t, "\x06"+value, width, times(3, v))
				wantLevels(t, "\x02"+value+"\x04"+value, width, times(3, v))
			} else {
				wantError(t, "\x06"+value, 3, width, api.ErrBad)
				wantError(t, "\x02"+value, 3, width, api.ErrBad)
				wantError(t, "\x06"+value+"\x00", 3, width, api.ErrBad)
			}
			// Bytes that lack come ahead of the value that is too great.
			wantError(t, "\x06"+value[:size-1], 3, width, api.ErrCut)
			wantError(t, "\x06", 3, width, api.ErrCut)
		}
	}
	wantError(t, "\x06\xff", 3, 9, api.ErrCut)
}

func TestP1002HowManyGroups(t *testing.T) {
	one := func(many uint64, n, width int, want api.Errno) {
		t.Helper()
		b := string(binary.AppendUvarint(nil, 2*many+1))
		for _, b := range []string{b, b + "\x00", b + strings.Repeat("\x00", 100), b + strings.Repeat("\xff", 100)} {
			wantError(t, b, n, width, want)
			wantError(t, "\x04"+strings.Repeat("\x00", (width+7)/8)+b, n+2, width, want)
		}
	}
	for _, width := range []int{1, 3, 8, 9, 16} {
		for n := 1; n <= 40; n++ {
			one(0, n, width, api.ErrBad)
			enough := uint64(n+7) / 8
			for _, many := range append(great, enough+1, enough+2, 500, 501) {
				one(many, n, width, api.ErrBad)
			}
			for many := 1; many <= int(enough); many++ {
				b := string(binary.AppendUvarint(nil, uint64(2*many+1))) + strings.Repeat("\x00", many*width)
				if left := n - 8*many; left > 0 {
					wantError(t, b, n, width, api.ErrCut) // fewer may be: others follow
					b += string([]byte{byte(2 * left), 0, 0}[:1+(width+7)/8])
				}
				wantLevels(t, b, width, times(n, 0))
			}
		}
		for _, n := range []int{3992, 3993, 3999, 4000} {
			enough := (n + 7) / 8
			b := string(binary.AppendUvarint(nil, uint64(2*enough+1)))
			wantLevels(t, b+strings.Repeat("\x00", enough*width), width, times(n, 0))
			wantError(t, b+strings.Repeat("\x00", enough*width-1), n, width, api.ErrCut)
			b = string(binary.AppendUvarint(nil, uint64(2*enough+3)))
			wantError(t, b+strings.Repeat("\x00", (enough+1)*width), n, width, api.ErrBad)
		}
	}
}

func TestP1002BehindTheLastValue(t *testing.T) {
	for width := 1; width <= 16; width++ {
		for _, many := range []int{1, 2, 3} {
			for n := 8*many - 7; n <= 8*many; n++ {
				head := string([]byte{byte(2*many + 1)})
				for at := range 8 * many * width {
					b := make([]byte, many*width)
					b[at/8] |= 1 << (at % 8)
					if at < n*width {
						l := make([]int, n)
						l[at/width] = 1 << (at % width)
						wantLevels(t, head+string(b), width, l)
						continue
					}
					wantError(t, head+string(b), n, width, api.ErrBad)
					wantError(t, head+string(b)+"\x00", n, width, api.ErrBad)
					wantError(t, "\x02\x00\x00"[:1+(width+7)/8]+head+string(b), n+1, width, api.ErrBad)
				}
				// Bytes that lack come ahead of values that are not 0.
				wantError(t, head+strings.Repeat("\xff", many*width-1), n, width, api.ErrCut)
			}
		}
	}
}

func TestP1002BytesThatEndEarly(t *testing.T) {
	check := func(b string, n, width int) {
		t.Helper()
		for i := range len(b) {
			wantError(t, b[:i], n, width, api.ErrCut)
		}
	}
	for _, x := range printed {
		check(x.b, len(x.l), x.width)
	}
	m := seed
	for i := range 2000 {
		l := m.levels(100, 1+i%16)
		check(string(level.Encode(l, 1+i%16)), len(l), 1+i%16)
	}
}

func TestP1002BytesBehind(t *testing.T) {
	for _, x := range printed {
		for _, more := range []string{"\x00", "\x01", "\x02\x01", "\xff", "\x80\x00", strings.Repeat("\xff", 10), strings.Repeat("\x00", 1000)} {
			wantError(t, x.b+more, len(x.l), x.width, api.ErrMore)
		}
	}
}

func TestP1002FoundFirst(t *testing.T) {
	for _, x := range []struct {
		b        string
		n, width int
		want     api.Errno
	}{
		{"\x80\x00", 4001, 1, api.ErrArg},
		{"\x80\x00", 5, 17, api.ErrArg},
		{"\xff\xff\xff\xff\xff\xff\xff\xff\xff\x02", 5, 1, api.ErrOver},
		{"\x8c\x00\x02", 5, 1, api.ErrBad},
		{"\x0c", 5, 1, api.ErrBad},
		{"\x0a", 5, 1, api.ErrCut},
		{"\x0a\x02", 5, 1, api.ErrBad},
		{"\x0a\x02\x00", 5, 1, api.ErrBad},
		{"\x0a\x01\x00", 5, 1, api.ErrMore},
		{"\x05\xff", 5, 1, api.ErrBad},
		{"\x05\xff", 9, 1, api.ErrCut},
		{"\x05\xff\xff", 9, 1, api.ErrBad},
		{"\x05\xff\xff\x00", 9, 1, api.ErrBad},
		{"\x05\xff\x01\x00", 9, 1, api.ErrMore},
		{"\x02\x02\x80\x00", 5, 1, api.ErrBad},
		{"\x02\x02\xff\xff\xff\xff\xff\xff\xff\xff\xff\x02", 5, 1, api.ErrBad},
		{"\x02\x01\x0a\x01", 5, 1, api.ErrBad},
		{"\x02\x01\x08", 5, 1, api.ErrCut},
		{"\x02\x01\x03", 5, 1, api.ErrCut},
		{"\x02\x01\x03\x10", 5, 1, api.ErrBad},
		{"\x02\x01\x03\x0f\x00", 5, 1, api.ErrMore},
	} {
		wantError(t, x.b, x.n, x.width, x.want)
	}
}

func TestP1002EveryTwoBytes(t *testing.T) {
	for _, n := range []int{0, 1, 2, 5, 8, 9, 16, 17, 127, 128, 200} {
		for _, width := range []int{0, 1, 2, 7, 8, 9, 16} {
			for x := range 1 << 16 {
				wantAsRead(t, []byte{byte(x), byte(x >> 8)}, n, width)
			}
		}
	}
}

func TestP1002ByItsWords(t *testing.T) {
	m := seed
	seen := map[api.Errno]int{}
	for i := range 60000 {
		width := i % 17
		l := m.levels(40, width)
		b := level.Encode(l, width)
		for range m.below(3) {
			b = m.spoil(b)
		}
		seen[wantAsRead(t, b, max(0, len(l)+m.below(3)-1), width)]++
	}
	for range 60000 {
		b := make([]byte, m.below(12))
		for i := range b {
			b[i] = byte(m.below([]int{2, 8, 256}[m.below(3)]))
		}
		seen[wantAsRead(t, b, m.below(30), m.below(17))]++
	}
	for _, e := range []api.Errno{api.OK, api.ErrCut, api.ErrBad, api.ErrMore} {
		if seen[e] < 1000 {
			t.Errorf("%v was seen %d times", e, seen[e])
		}
	}
}

func TestP1003WhatWasEncoded(t *testing.T) {
	m := seed
	for i := range 20000 {
		l := m.levels(150, i%17)
		wantLevels(t, string(level.Encode(l, i%17)), i%17, l)
	}
	for width := range 17 {
		for range 20 {
			l := m.levels(4000, width)
			wantLevels(t, string(level.Encode(l, width)), width, l)
		}
		for _, l := range [][]int{
			turns(4000, 1<<width),
			turns(3999, 1<<width),
			times(4000, 1<<width-1),
			joined(times(3999, 0), of(1<<width-1)),
			joined(of(1<<width-1), times(3999, 0)),
			joined(times(1999, 0), of(1<<width-1), times(2000, 0)),
		} {
			wantLevels(t, string(level.Encode(l, width)), width, l)
		}
	}
}

// strange are numbers that are no widths, or no levels.
var strange = []int{math.MinInt, math.MinInt + 1, -1 << 32, -65536, -17, -8, -1, 17, 63, 64, 65, 65536, 1 << 32, 1 << 62, math.MaxInt}

func TestP1AnyArguments(t *testing.T) {
	for _, width := range append(turns(17, 17), strange...) {
		for _, l := range [][]int{nil, {}, of(0), turns(100, 2), strange, times(10, math.MinInt), times(10, math.MaxInt), times(3, -1), of(-1, 0), joined(turns(9, 2), times(9, -1), of(1))} {
			level.Encode(l, width)
		}
		for _, n := range append(strange, 0, 1, 4000) {
			for _, b := range []string{"", "\x00", "\x02\x01", strings.Repeat("\xff", 1000), strings.Repeat("\x03", 1000)} {
				level.Decode([]byte(b), n, width)
			}
		}
	}
	// What is none is not written as another one.
	for _, v := range []int{-1, 4, 5, 256, 1 << 32, math.MinInt, math.MaxInt} {
		wantBytes(t, of(v), 2, "")
		wantBytes(t, joined(times(9, 1), of(0, v)), 2, "")
	}
	wantBytes(t, times(9, 1), -1, "")
	wantBytes(t, times(9, 1), 17, "")
}

func TestP1LongBytes(t *testing.T) {
	// As many parts as may be, and many bytes behind them: they take long, if each part costs as much as all behind it.
	b := strings.Repeat("\x02\x01", 4000)
	wantLevels(t, b, 1, times(4000, 1))
	wantError(t, b+strings.Repeat("\xff", 1<<24), 4000, 1, api.ErrMore)
}

func TestP2ArgumentsAreLeft(t *testing.T) {
	for _, x := range printed {
		l := append(slices.Clone(x.l), 7, 8, 9)
		was := slices.Clone(l)
		level.Encode(l[:len(x.l)], x.width)
		level.Encode(l[:len(x.l)], 17)
		if !slices.Equal(l, was) {
			t.Errorf("Encode(%v, %d) writes into its argument: %v", x.l, x.width, l)
		}
		b := append([]byte(x.b), "and what lies behind"...)
		for n := range len(b) {
			level.Decode(b[:n], len(x.l), x.width)
			level.Decode(b[:n], 4000, 16)
		}
		if string(b) != x.b+"and what lies behind" {
			t.Errorf("Decode(%x, %d, %d) writes into its argument: %x", x.b, len(x.l), x.width, b)
		}
	}
}

func TestP2ResultsAreNew(t *testing.T) {
	for _, x := range printed {
		l := slices.Clone(x.l)
		b, other := level.Encode(l, x.width), level.Encode(l, x.width)
		clear(l)
		clear(other[:cap(other)])
		if string(b) != x.b {
			t.Errorf("what Encode(%v, %d) answers changes with its argument, or with another answer", x.l, x.width)
		}
		from := []byte(x.b)
		got, _ := level.Decode(from, len(x.l), x.width)
		again, _ := level.Decode(from, len(x.l), x.width)
		clear(from)
		clear(again[:cap(again)])
		if !slices.Equal(got, x.l) {
			t.Errorf("what Decode(%x) answers changes with its argument, or with another answer", x.b)
		}
	}
}

func TestP3TheSameCalls(t *testing.T) {
	for range 3 {
		for _, x := range printed {
			wantBytes(t, x.l, x.width, x.b)
			wantLevels(t, x.b, x.width, x.l)
			wantError(t, x.b+"\x00", len(x.l), x.width, api.ErrMore)
		}
	}
}

func TestP4NothingBesideAnError(t *testing.T) {
	// Levels were read ahead of the error.
	for _, b := range []string{"\x14\x01", "\x14\x01\x00", "\x14\x01\x14", "\x14\x01\x14\x02", "\x14\x01\x05\xff\xff", "\x14\x01\x80\x00", "\x14\x01\x14\x01\x00"} {
		if l, e := level.Decode([]byte(b), 20, 1); e == api.OK || len(l) != 0 {
			t.Errorf("Decode(%x): %v, %v", b, l, e)
		}
	}
}
