package crc_test

import (
	"bytes"
	"hash/crc32"
	"math/bits"
	"slices"
	"strings"
	"testing"

	"shredder/crc"
)

// summed are texts and their sums, as they are known.
var summed = []struct {
	b   string
	sum uint32
}{
	{"", 0},
	{"\x00", 0xd202ef8d},
	{"\xff", 0xff000000},
	{"a", 0xe8b7be43},
	{"abc", 0x352441c2},
	{"123456789", 0xcbf43926},
	{"message digest", 0x20159d7f},
	{"abcdefghijklmnopqrstuvwxyz", 0x4c2750bd},
	{"The quick brown fox jumps over the lazy dog", 0x414fa339},
	{"\x00\x00\x00\x00", 0x2144df1c},
	{"\xff\xff\xff\xff", 0xffffffff},
	{strings.Repeat("\x00", 32), 0x190a55ad},
	{strings.Repeat("\xff", 32), 0xff6cab0b},
}

// polynomial is the one of IEEE 802.3, reflected: its topmost bit is the one of x to the 0.
const polynomial = 0xedb88320

// bitwise is the sum by its rule: one bit after the other, each byte's lowest one first.
func bitwise(b []byte) uint32 {
	sum := ^uint32(0)
	for i := range 8 * len(b) {
		out := sum&1 ^ uint32(b[i/8]>>(i%8)&1)
		sum = sum>>1 ^ out*polynomial
	}
	return ^sum
}

// mix tells numbers in whose bits there is no order to be seen.
type mix uint64

func (m *mix) next() uint64 {
	*m ^= *m << 13
	*m ^= *m >> 7
	*m ^= *m << 17
	return uint64(*m)
}

func (m *mix) below(n int) int { return int(m.next() >> 1 % uint64(n)) }

func (m *mix) bytes(n int) []byte {
	b := make([]byte, n)
	for i := range b {
		b[i] = byte(m.next() >> 20)
	}
	return b
}

// seed begins a mix.
const seed = mix(88172645463325252)

// flip turns over the bits of b from at on that are 1 in pattern, its lowest one first.
func flip(b []byte, at int, pattern uint64) []byte {
	x := bytes.Clone(b)
	for i := range 64 {
		if pattern>>i&1 == 1 {
			x[(at+i)/8] ^= 1 << ((at + i) % 8)
		}
	}
	return x
}

func TestP401KnownSums(t *testing.T) {
	for _, x := range summed {
		if got := crc.Sum([]byte(x.b)); got != x.sum {
			t.Errorf("Sum(%q): %08x, want %08x", x.b, got, x.sum)
		}
	}
}

func TestP401NoBytes(t *testing.T) {
	for _, parts := range [][][]byte{nil, {}, {nil}, {{}}, {nil, nil}, {{}, nil, {}}} {
		if got := crc.Sum(parts...); got != 0 {
			t.Errorf("Sum(%v): %08x, want 0", parts, got)
		}
	}
}

func TestP401EachByte(t *testing.T) {
	for c := range 256 {
		for _, b := range [][]byte{{byte(c)}, {0, byte(c)}, {byte(c), 0}, {byte(c), 255, byte(c)}} {
			if got, want := crc.Sum(b), bitwise(b); got != want {
				t.Errorf("Sum(%x): %08x, want %08x", b, got, want)
			}
		}
	}
}

func TestP401ByItsRule(t *testing.T) {
	m := seed
	for n := range 600 {
		b := m.bytes(n)
		if got, want := crc.Sum(b), bitwise(b); got != want {
			t.Fatalf("Sum of %d bytes: %08x, want %08x", n, got, want)
		}
	}
}

func TestP401AFileOfBytes(t *testing.T) {
	m := seed
	b := m.bytes(1 << 20)
	if got, want := crc.Sum(b), crc32.ChecksumIEEE(b); got != want {
		t.Errorf("%08x, want %08x", got, want)
	}
	if got, want := crc.Sum(make([]byte, 1<<20)), crc32.ChecksumIEEE(make([]byte, 1<<20)); got != want {
		t.Errorf("of zeros: %08x, want %08x", got, want)
	}
}

func TestP401ZerosAheadAndBehindCount(t *testing.T) {
	was := map[uint32]int{}
	for n := range 100 {
		sum := crc.Sum(make([]byte, n))
		if m, ok := was[sum]; ok {
			t.Errorf("%d and %d zeros have the sum %08x", m, n, sum)
		}
		was[sum] = n
	}
	if crc.Sum([]byte("\x00a")) == crc.Sum([]byte("a")) || crc.Sum([]byte("a\x00")) == crc.Sum([]byte("a")) {
		t.Error("a zero does not count")
	}
}

func TestP401OfAllParts(t *testing.T) {
	want := bitwise([]byte("onetwothree"))
	if got := crc.Sum([]byte("one"), []byte("two"), []byte("three")); got != want {
		t.Errorf("%08x, want %08x", got, want)
	}
	// In their order, and the same one as often as it is there.
	if got := crc.Sum([]byte("two"), []byte("one"), []byte("three")); got != bitwise([]byte("twoonethree")) {
		t.Errorf("%08x", got)
	}
	one := []byte("one")
	if got := crc.Sum(one, one, one); got != bitwise([]byte("oneoneone")) {
		t.Errorf("%08x", got)
	}
}

func TestP401ThePartsBytesAlone(t *testing.T) {
	// The room behind a part's end is none of its bytes.
	room := []byte("123456789 and what lies behind it")
	if got := crc.Sum(room[:4], room[4:9]); got != 0xcbf43926 {
		t.Errorf("%08x", got)
	}
}

func TestP402TwoParts(t *testing.T) {
	for _, x := range summed {
		b := []byte(x.b)
		for i := range len(b) + 1 {
			if got := crc.Sum(b[:i], b[i:]); got != x.sum {
				t.Errorf("Sum(%q, %q): %08x, want %08x", b[:i], b[i:], got, x.sum)
			}
		}
	}
}

func TestP402AnyParts(t *testing.T) {
	m := seed
	for range 2000 {
		b := m.bytes(m.below(100))
		want := bitwise(b)
		var parts [][]byte
		for rest := b; len(rest) > 0 || m.below(3) > 0; {
			n := m.below(min(len(rest), 9) + 1)
			parts, rest = append(parts, rest[:n]), rest[n:]
		}
		if got := crc.Sum(parts...); got != want {
			t.Fatalf("Sum(%x): %08x, want %08x", parts, got, want)
		}
	}
}

func TestP402EachByteAPart(t *testing.T) {
	b := []byte(strings.Repeat("a part a byte, and nothing between", 100))
	var parts [][]byte
	for i := range b {
		parts = append(parts, b[i:i+1], nil, []byte{})
	}
	if got, want := crc.Sum(parts...), bitwise(b); got != want {
		t.Errorf("%08x, want %08x", got, want)
	}
}

func TestP402OneBit(t *testing.T) {
	m := seed
	for _, n := range []int{1, 2, 5, 100, 300} {
		b := m.bytes(n)
		sum := crc.Sum(b)
		for at := range 8 * n {
			if crc.Sum(flip(b, at, 1)) == sum {
				t.Errorf("bit %d of %d bytes does not count", at, n)
			}
		}
	}
}

func TestP402OneByte(t *testing.T) {
	b := []byte("one byte of these")
	sum := crc.Sum(b)
	for i := range b {
		for c := 1; c < 256; c++ {
			if crc.Sum(flip(b, 8*i, uint64(c))) == sum {
				t.Errorf("byte %d, turned over by %02x, has the same sum", i, c)
			}
		}
	}
}

func TestP402Within32Bits(t *testing.T) {
	m := seed
	edges := []uint64{1, 1 << 31, 1<<31 | 1, 1<<32 - 1, polynomial, polynomial<<1&(1<<32-1) | 1, 0x04c11db7}
	for n := 4; n < 40; n++ {
		b := m.bytes(n)
		sum := crc.Sum(b)
		for at := range 8*n - 31 {
			for _, pattern := range append(edges, m.next()>>32|1, m.next()>>32|1<<31, m.next()>>48|1) {
				if crc.Sum(flip(b, at, pattern)) == sum {
					t.Fatalf("%x: turned over by %08x at bit %d, it has the same sum", b, pattern, at)
				}
			}
		}
	}
}

func TestP402NoFurther(t *testing.T) {
	// 33 bits in a row that are the polynomial itself are not seen: no sum of 32 bits that is P401's sees them.
	b := []byte("123456789")
	for at := range 8*len(b) - 32 {
		if got := crc.Sum(flip(b, at, polynomial<<1|1)); got != 0xcbf43926 {
			t.Errorf("at bit %d: %08x", at, got)
		}
	}
}

func TestP402Any32BitsInARow(t *testing.T) {
	// What a bit changes does not hang on the other ones, so all patterns of 32 bits change the sum if what the single
	// bits change is linearly independent.
	b := seedBytes(40)
	sum := crc.Sum(b)
	for at := range 8*len(b) - 31 {
		var rows [32]uint32
		for i := range rows {
			rows[i] = crc.Sum(flip(b, at+i, 1)) ^ sum
		}
		if n := rank(rows[:]); n != 32 {
			t.Errorf("32 bits from bit %d on: rank %d", at, n)
		}
	}
}

func seedBytes(n int) []byte {
	m := seed
	return m.bytes(n)
}

// rank is how many of the rows are linearly independent.
func rank(rows []uint32) int {
	var byTop [32]uint32 // the row whose topmost bit is that one
	n := 0
	for _, r := range rows {
		for r != 0 && byTop[bits.Len32(r)-1] != 0 {
			r ^= byTop[bits.Len32(r)-1]
		}
		if r != 0 {
			byTop[bits.Len32(r)-1] = r
			n++
		}
	}
	return n
}

func TestP2ArgumentsAreLeft(t *testing.T) {
	room := []byte("a part, another part, and what lies behind")
	was := bytes.Clone(room)
	parts := [][]byte{room[:6], nil, room[6:20], room[20:20], room[3:9]}
	before := slices.Clone(parts)
	crc.Sum(parts...)
	if !bytes.Equal(room, was) {
		t.Errorf("Sum wrote into a part: %q", room)
	}
	for i, p := range parts {
		if len(p) != len(before[i]) || cap(p) != cap(before[i]) || !bytes.Equal(p, before[i]) {
			t.Errorf("Sum wrote into the list of parts: part %d is %q", i, p)
		}
	}
}

func TestP2NothingIsKept(t *testing.T) {
	b := []byte("123456789")
	crc.Sum(b)
	copy(b, "987654321")
	if got, want := crc.Sum(b), bitwise(b); got != want {
		t.Errorf("%08x, want %08x", got, want)
	}
}

func TestP3TheSameCalls(t *testing.T) {
	for range 3 {
		for _, x := range summed {
			if got := crc.Sum([]byte(x.b)); got != x.sum {
				t.Errorf("Sum(%q): %08x, want %08x", x.b, got, x.sum)
			}
		}
	}
}
