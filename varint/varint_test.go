package varint_test

import (
	"bytes"
	"math"
	"strings"
	"testing"

	"shredder/api"
	"shredder/varint"
)

// nine are the bytes ahead of a tenth one.
const nine = "\xff\xff\xff\xff\xff\xff\xff\xff\xff"

// written are numbers and what they are as bytes, worked out by hand.
var written = []struct {
	v uint64
	b string
}{
	{0, "\x00"},
	{1, "\x01"},
	{127, "\x7f"},
	{128, "\x80\x01"},
	{129, "\x81\x01"},
	{255, "\xff\x01"},
	{256, "\x80\x02"},
	{300, "\xac\x02"},
	{16383, "\xff\x7f"},
	{16384, "\x80\x80\x01"},
	{1 << 32, "\x80\x80\x80\x80\x10"},
	{math.MaxUint32, "\xff\xff\xff\xff\x0f"},
	{0x0102030405060708, "\x88\x8e\x98\xa8\xc0\xe0\x80\x81\x01"},
	{1<<63 - 1, "\xff\xff\xff\xff\xff\xff\xff\xff\x7f"},
	{1 << 63, "\x80\x80\x80\x80\x80\x80\x80\x80\x80\x01"},
	{math.MaxUint64, nine + "\x01"},
}

// zigzag are numbers with a sign and their Zig.
var zigzag = []struct {
	v int
	u uint64
}{
	{0, 0},
	{-1, 1},
	{1, 2},
	{-2, 3},
	{2, 4},
	{-150, 299},
	{150, 300},
	{math.MaxInt32, 1<<32 - 2},
	{math.MinInt32, 1<<32 - 1},
	{math.MaxInt64 - 1, 1<<64 - 4},
	{math.MinInt64 + 1, 1<<64 - 3},
	{math.MaxInt64, 1<<64 - 2},
	{math.MinInt64, 1<<64 - 1},
}

// numbers are edges of every length, and numbers in whose bits there is no order to be seen.
func numbers() []uint64 {
	l := []uint64{0, math.MaxUint64}
	for k := range 64 {
		l = append(l, 1<<k-1, 1<<k, 1<<k+1)
	}
	v := uint64(88172645463325252)
	for i := range 1000 {
		v ^= v << 13
		v ^= v >> 7
		v ^= v << 17
		l = append(l, v>>(i%64))
	}
	return l
}

// fails asks that Get tells the error, and nothing beside it.
func fails(t *testing.T, b string, want api.Errno) {
	t.Helper()
	if v, n, e := varint.Get([]byte(b)); v != 0 || n != 0 || e != want {
		t.Errorf("Get(%x): %d, %d, %v, want %v", b, v, n, e, want)
	}
}

func TestP301Put(t *testing.T) {
	for _, x := range written {
		for _, ahead := range []string{"", "\x00", "ahead", "\x80\x80"} {
			if got := string(varint.Put([]byte(ahead), x.v)); got != ahead+x.b {
				t.Errorf("Put(%x, %d): %x", ahead, x.v, got)
			}
		}
		if got := string(varint.Put(nil, x.v)); got != x.b {
			t.Errorf("Put(nil, %d): %x", x.v, got)
		}
	}
}

func TestP301PutGroups(t *testing.T) {
	for _, v := range numbers() {
		b := varint.Put(nil, v)
		rest := v
		for i, c := range b {
			if last := i == len(b)-1; c>>7 == 0 != last {
				t.Fatalf("Put(%d): %x: the most significant bit of byte %d", v, b, i)
			}
			if uint64(c&127) != rest%128 {
				t.Fatalf("Put(%d): %x: the group of byte %d", v, b, i)
			}
			rest /= 128
		}
		if rest != 0 {
			t.Fatalf("Put(%d): %x: not all of it", v, b)
		}
	}
}

func TestP301PutAsFewBytesAsPossible(t *testing.T) {
	for k := 1; k <= 9; k++ {
		most := uint64(1)<<(7*k) - 1
		if n := len(varint.Put(nil, most)); n != k {
			t.Errorf("Put(%d): %d bytes, want %d", most, n, k)
		}
		if n := len(varint.Put(nil, most+1)); n != k+1 {
			t.Errorf("Put(%d): %d bytes, want %d", most+1, n, k+1)
		}
	}
	for v, want := range map[uint64]int{0: 1, 1: 1, math.MaxUint64: 10} {
		if n := len(varint.Put(nil, v)); n != want {
			t.Errorf("Put(%d): %d bytes, want %d", v, n, want)
		}
	}
}

func TestP301Get(t *testing.T) {
	for _, x := range written {
		for _, behind := range []string{"", "\x00", "\x80", "\xff\xff", "\x01behind", nine + nine} {
			v, n, e := varint.Get([]byte(x.b + behind))
			if v != x.v || n != len(x.b) || e != api.OK {
				t.Errorf("Get(%x): %d, %d, %v, want %d, %d", x.b+behind, v, n, e, x.v, len(x.b))
			}
		}
	}
}

func TestP301GetErrOver(t *testing.T) {
	for c := 2; c < 256; c++ {
		tenth := string([]byte{byte(c)})
		for _, ahead := range []string{nine, strings.Repeat("\x80", 9)} {
			fails(t, ahead+tenth, api.ErrOver)
			fails(t, ahead+tenth+"\x00", api.ErrOver)
			fails(t, ahead+tenth+"\x01", api.ErrOver)
		}
	}
	fails(t, strings.Repeat("\x80", 500), api.ErrOver)
	fails(t, strings.Repeat("\xff", 500), api.ErrOver)
}

func TestP301GetNotOverAheadOfTheTenth(t *testing.T) {
	for n := 1; n <= 9; n++ {
		b := nine[:n-1] + "\x7f"
		if v, m, e := varint.Get([]byte(b)); v != 1<<(7*n)-1 || m != n || e != api.OK {
			t.Errorf("Get(%x): %d, %d, %v", b, v, m, e)
		}
		// What lies behind the number is no tenth byte of it.
		if _, m, e := varint.Get([]byte(b + nine + nine)); m != n || e != api.OK {
			t.Errorf("Get(%x..): %d, %v", b, m, e)
		}
	}
}

func TestP301GetErrCut(t *testing.T) {
	fails(t, "", api.ErrCut)
	if v, n, e := varint.Get(nil); v != 0 || n != 0 || e != api.ErrCut {
		t.Errorf("Get(nil): %d, %d, %v", v, n, e)
	}
	for n := 1; n <= 9; n++ {
		fails(t, nine[:n], api.ErrCut)
		fails(t, strings.Repeat("\x80", n), api.ErrCut)
	}
	for _, x := range written {
		for n := range len(x.b) {
			fails(t, x.b[:n], api.ErrCut)
		}
	}
}

func TestP301GetErrCutBehindTheEnd(t *testing.T) {
	// The room behind the slice's end is none of its bytes.
	b := []byte("\x80\x01")
	if v, n, e := varint.Get(b[:1]); v != 0 || n != 0 || e != api.ErrCut {
		t.Errorf("%d, %d, %v", v, n, e)
	}
}

func TestP301GetErrBad(t *testing.T) {
	for n := 1; n <= 9; n++ {
		for _, ahead := range []string{nine[:n], strings.Repeat("\x80", n), strings.Repeat("\x81", n)} {
			fails(t, ahead+"\x00", api.ErrBad)
			fails(t, ahead+"\x00\x01", api.ErrBad)
		}
	}
}

func TestP301GetOfAZero(t *testing.T) {
	// The first byte may be 0, and so may the group of one that is not the last.
	for b, want := range map[string]uint64{"\x00": 0, "\x00\x00": 0, "\x80\x01": 128, "\x80\x80\x01": 16384} {
		if v, _, e := varint.Get([]byte(b)); v != want || e != api.OK {
			t.Errorf("Get(%x): %d, %v", b, v, e)
		}
	}
}

func TestP302Zig(t *testing.T) {
	for _, x := range zigzag {
		if got := varint.Zig(x.v); got != x.u {
			t.Errorf("Zig(%d): %d, want %d", x.v, got, x.u)
		}
	}
}

func TestP302ZigByItsRule(t *testing.T) {
	for v := -1000; v <= 1000; v++ {
		want := 2 * v
		if v < 0 {
			want = -2*v - 1
		}
		if got := varint.Zig(v); got != uint64(want) {
			t.Errorf("Zig(%d): %d, want %d", v, got, want)
		}
	}
}

func TestP302Zag(t *testing.T) {
	for _, x := range zigzag {
		if got := varint.Zag(x.u); got != x.v {
			t.Errorf("Zag(%d): %d, want %d", x.u, got, x.v)
		}
	}
}

func TestP303GetReturnsWhatPutWrote(t *testing.T) {
	for _, want := range numbers() {
		b := varint.Put(nil, want)
		v, n, e := varint.Get(b)
		if v != want || n != len(b) || e != api.OK {
			t.Fatalf("%d: %d, %d, %v", want, v, n, e)
		}
	}
}

func TestP303OneBehindTheOther(t *testing.T) {
	var b []byte
	for _, v := range numbers() {
		b = varint.Put(b, v)
	}
	for _, want := range numbers() {
		v, n, e := varint.Get(b)
		if v != want || e != api.OK {
			t.Fatalf("%d: %d, %v", want, v, e)
		}
		b = b[n:]
	}
	if len(b) > 0 {
		t.Errorf("%d bytes are left", len(b))
	}
}

func TestP303PutWritesWhatWasRead(t *testing.T) {
	// Each number is read from one form only.
	for a := range 256 {
		for c := range 256 {
			for _, d := range []byte{0, 1, 127, 128} {
				b := []byte{byte(a), byte(c), d}
				v, n, e := varint.Get(b)
				if e == api.OK && !bytes.Equal(varint.Put(nil, v), b[:n]) {
					t.Fatalf("%x: read as %d", b, v)
				}
			}
		}
	}
}

func TestP303ZagIsTheInverseOfZig(t *testing.T) {
	for _, u := range numbers() {
		if got := varint.Zag(varint.Zig(int(u))); got != int(u) {
			t.Fatalf("Zag(Zig(%d)): %d", int(u), got)
		}
		if got := varint.Zig(varint.Zag(u)); got != u {
			t.Fatalf("Zig(Zag(%d)): %d", u, got)
		}
	}
}

func TestP2ArgumentsAreLeft(t *testing.T) {
	for _, x := range written {
		room := []byte("ahead, and what lies behind it")
		was := bytes.Clone(room)
		varint.Put(room[:5], x.v)
		if !bytes.Equal(room, was) {
			t.Errorf("Put(%d) wrote into its argument: %q", x.v, room)
		}
		b := []byte(x.b + "behind")
		varint.Get(b)
		if string(b) != x.b+"behind" {
			t.Errorf("Get(%x) wrote into its argument: %x", x.b, b)
		}
	}
}

func TestP2ResultsAreNew(t *testing.T) {
	room := make([]byte, 5, 64)
	copy(room, "ahead")
	one := varint.Put(room, 300)
	two := varint.Put(room, 301)
	three := varint.Put(one, 5)
	four := varint.Put(one, 6)
	if string(one) != "ahead\xac\x02" || string(two) != "ahead\xad\x02" {
		t.Errorf("results share memory: %x, %x", one, two)
	}
	if string(three) != "ahead\xac\x02\x05" || string(four) != "ahead\xac\x02\x06" {
		t.Errorf("results share memory: %x, %x", three, four)
	}
	for i := range cap(one) {
		one[:cap(one)][i] = 'x'
	}
	if string(room) != "ahead" || string(room[:8]) != "ahead\x00\x00\x00" {
		t.Errorf("a result shares memory with the argument: %x", room[:8])
	}
	copy(room, "-----")
	if string(two) != "ahead\xad\x02" {
		t.Errorf("the argument was kept: %x", two)
	}
}

func TestP3TheSameCalls(t *testing.T) {
	for _, x := range written {
		one, two := varint.Put([]byte("x"), x.v), varint.Put([]byte("x"), x.v)
		v, n, e := varint.Get(one[1:])
		w, m, f := varint.Get(two[1:])
		if !bytes.Equal(one, two) || v != w || n != m || e != f {
			t.Errorf("%d: %x, %x; %d, %d, %v; %d, %d, %v", x.v, one, two, v, n, e, w, m, f)
		}
	}
}
