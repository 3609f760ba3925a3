package delta_test

import (
	"encoding/binary"
	"math"
	"slices"
	"strings"
	"testing"

	"shredder/api"
	"shredder/delta"
	"shredder/plain"
)

// kinds are those of leaves; strange are numbers that are none, and no counts of values either.
var (
	kinds   = []int{api.Bool, api.Int32, api.Int64, api.Bytes}
	strange = []int{math.MinInt, math.MinInt + 1, -1 << 32, 1 - 1<<32, -4000, -4, -2, -1, 4001, 4008, 1 << 16, 1 << 32, 1<<32 + 1, 1<<32 + 4, 1 << 62, math.MaxInt}
)

// ns, ss are values of numbers, of texts.
func ns(l ...int) (values []api.Value) {
	for _, n := range l {
		values = append(values, api.Value{N: n})
	}
	return values
}

func ss(l ...string) (values []api.Value) {
	for _, s := range l {
		values = append(values, api.Value{S: s})
	}
	return values
}

// y is a text of n bytes.
func y(n int) string { return strings.Repeat("y", n) }

// squares are the squares of 0 to n - 1: their differences are 1, 3, 5 and so on.
func squares(n int) (l []int) {
	for i := range n {
		l = append(l, i*i)
	}
	return l
}

// numbers are numbers and what they are as bytes, worked out by hand.
var numbers = []struct {
	l []int
	b string
}{
	{nil, ""},
	{[]int{0}, "\x00"},
	{[]int{-1}, "\x01"},
	{[]int{1}, "\x02"},
	{[]int{-64}, "\x7f"},
	{[]int{64}, "\x80\x01"},
	{[]int{math.MaxInt}, "\xfe\xff\xff\xff\xff\xff\xff\xff\xff\x01"},
	{[]int{math.MinInt}, "\xff\xff\xff\xff\xff\xff\xff\xff\xff\x01"},
	{[]int{5, 6, 7}, "\x0a\x02\x00"},
	{[]int{7, 6, 5}, "\x0e\x01\x00"},
	{[]int{3, 3}, "\x06\x00\x00"},
	{[]int{0, 1, 3}, "\x00\x02\x01\x02"},                                                  // 1, 2: 0 and 1 above 1
	{[]int{0, 2, 3}, "\x00\x02\x01\x01"},                                                  // 2, 1: 1 and 0 above 1
	{[]int{10, 9, 9, 11, 8}, "\x14\x05\x03\x5a\x01"},                                      // -1, 0, 2, -3: 2, 3, 5, 0 above -3, of three bits
	{[]int{0, 0, 255}, "\x00\x00\x08\x00\xff"},                                            // 0, 255: of eight bits
	{[]int{0, 256, 256}, "\x00\x00\x09\x00\x01\x00"},                                      // 256, 0: of nine bits
	{[]int{0, 1, 2, 3, 4, 5, 6, 7, 9}, "\x00\x02\x01\x80"},                                // 1 seven times, 2
	{[]int{0, 2, 3, 4, 5, 6, 7, 8, 9}, "\x00\x02\x01\x01"},                                // 2, 1 seven times
	{[]int{0, 1, 2, 3, 4, 5, 6, 7, 8, 10}, "\x00\x02\x01\x00\x01"},                        // 1 eight times, 2
	{[]int{math.MinInt, math.MaxInt}, "\xff\xff\xff\xff\xff\xff\xff\xff\xff\x01\x01\x00"}, // -1
	{[]int{math.MaxInt, math.MinInt}, "\xfe\xff\xff\xff\xff\xff\xff\xff\xff\x01\x02\x00"}, // 1
	{[]int{0, math.MinInt}, "\x00\xff\xff\xff\xff\xff\xff\xff\xff\xff\x01\x00"},           // the least difference there is
	{[]int{0, math.MinInt, -1}, "\x00\xff\xff\xff\xff\xff\xff\xff\xff\xff\x01\x40\x00\x00\x00\x00\x00\x00\x00\x00\xff\xff\xff\xff\xff\xff\xff\xff"}, // and the greatest: all 64 bits
	{[]int{0, -1, math.MaxInt - 1}, "\x00\x01\x40\x00\x00\x00\x00\x00\x00\x00\x00\x00\x00\x00\x00\x00\x00\x00\x80"},                                 // -1, and the greatest: above it by 1 << 63
	{squares(33), "\x00\x02\x06" + packedEven()},
	{squares(34), "\x00\x02\x06" + packedEven() + "\x82\x01\x00"},                 // the difference 65 has a block of its own
	{squares(35), "\x00\x02\x06" + packedEven() + "\x82\x01\x02\x08"},             // 65, 67
	{append(make([]int, 33), 1), "\x00\x00\x00\x02\x00"},                          // 32 times 0, and 1
	{append(make([]int, 32), 1), "\x00\x00\x01\x00\x00\x00\x80"},                  // 31 times 0, and 1
	{make([]int, 65), "\x00\x00\x00\x00\x00"},                                     // two blocks
	{make([]int, 66), "\x00\x00\x00\x00\x00\x00\x00"},                             // three blocks
	{append([]int{9}, make([]int, 64)...), "\x12\x11\x04" + nines() + "\x00\x00"}, // -9, 31 times 0, and 32 times 0
}

// packedEven are 0, 2, 4 to 62, of six bits each.
func packedEven() string {
	return "\x80\x40\x18\x88\xc2\x38\x90\x44\x59\x98\xc6\x79\xa0\x48\x9a\xa8\xca\xba\xb0\x4c\xdb\xb8\xce\xfb"
}

// nines are 0, and 31 times 9, of four bits each.
func nines() string { return "\x90" + strings.Repeat("\x99", 15) }

// printed are values and what they are as bytes, worked out by hand.
var printed = []struct {
	kind int
	l    []api.Value
	b    string
}{
	{api.Bool, nil, ""},
	{api.Bool, ns(0), "\x00"},
	{api.Bool, ns(1, 0, 1), "\x05"},
	{api.Bool, ns(0, 0, 0, 0, 0, 0, 0, 0, 1), "\x00\x01"},
	{api.Int32, nil, ""},
	{api.Int32, ns(5, 6, 7), "\x0a\x02\x00"},
	{api.Int32, ns(math.MaxInt32), "\xfe\xff\xff\xff\x0f"},
	{api.Int32, ns(math.MinInt32), "\xff\xff\xff\xff\x0f"},
	{api.Int32, ns(math.MinInt32, math.MaxInt32), "\xff\xff\xff\xff\x0f\xfe\xff\xff\xff\x1f\x00"}, // above all differences of 32 bits
	{api.Int64, nil, ""},
	{api.Int64, ns(5, 6, 7), "\x0a\x02\x00"},
	{api.Int64, ns(math.MaxInt32 + 1), "\x80\x80\x80\x80\x10"},
	{api.Int64, ns(math.MinInt, math.MaxInt), "\xff\xff\xff\xff\xff\xff\xff\xff\xff\x01\x01\x00"},
	{api.Bytes, nil, ""},
	{api.Bytes, ss(""), "\x00"},
	{api.Bytes, ss("", "", ""), "\x00\x00\x00"},
	{api.Bytes, ss("a"), "\x02a"},
	{api.Bytes, ss("ab", "", "c"), "\x04\x03\x02\x0cabc"}, // 2, then -2, 1: 0 and 3 above -2
	{api.Bytes, ss("", "hi", ""), "\x00\x03\x03\x04hi"},   // 0, then 2, -2: 4 and 0 above -2
	{api.Bytes, ss("\x00", "\x02\x00"), "\x02\x02\x00\x00\x02\x00"},
	{api.Bytes, ss("\xff\xc3(", "\u00e9\u20ac", "\xed\xa0\x80"), "\x06\x03\x03\x04\xff\xc3(\u00e9\u20ac\xed\xa0\x80"}, // 3, 5, 3
	{api.Bytes, ss(y(99), y(100)), "\xc6\x01\x02\x00" + y(199)},
	{api.Bytes, ss(slices.Repeat([]string{"x"}, 34)...), "\x02\x00\x00\x00\x00" + strings.Repeat("x", 34)},
}

// packed are the lowest bits of numbers, bit by bit.
func packed(l []uint64, width int) []byte {
	b := make([]byte, (len(l)*width+7)/8)
	for i, v := range l {
		for k := range width {
			at := i*width + k
			b[at/8] |= byte(v>>k&1) << (at % 8)
		}
	}
	return b
}

// ints is Ints by its words. A varint of a Zig is what encoding/binary calls a Varint.
func ints(l []int) (b []byte) {
	if len(l) == 0 {
		return nil
	}
	var differences []int
	for i, v := range l[1:] {
		differences = append(differences, v-l[i])
	}
	b = binary.AppendVarint(nil, int64(l[0]))
	for d := range slices.Chunk(differences, 32) {
		least, width := slices.Min(d), 0
		var above []uint64
		for _, v := range d {
			above = append(above, uint64(v-least))
		}
		for width < 64 && slices.Max(above)>>width > 0 {
			width++
		}
		b = append(binary.AppendVarint(b, int64(least)), byte(width))
		b = append(b, packed(above, width)...)
	}
	return b
}

// written is Encode by its words.
func written(kind int, l []api.Value) []byte {
	if kind == api.Bool {
		return plain.Encode(kind, l)
	}
	var numbers []int
	var texts []byte
	for _, v := range l {
		if kind == api.Bytes {
			v.N = len(v.S)
		}
		numbers, texts = append(numbers, v.N), append(texts, v.S...)
	}
	return append(ints(numbers), texts...)
}

// reading reads by the words of Read and Decode; what is wrong is a panic of its error.
type reading struct{ b []byte }

func (r *reading) take(n int) []byte {
	if n > len(r.b) {
		panic(api.ErrCut)
	}
	b := r.b[:n]
	r.b = r.b[n:]
	return b
}

func (r *reading) signed() int {
	var u uint64
	for i := 0; ; i++ {
		c := r.take(1)[0]
		if i == 9 && c > 1 {
			panic(api.ErrOver)
		}
		u |= uint64(c&127) << (7 * i)
		if c > 127 {
			continue
		}
		if c == 0 && i > 0 {
			panic(api.ErrBad)
		}
		if u%2 == 1 {
			return -int(u/2) - 1
		}
		return int(u / 2)
	}
}

func (r *reading) block(v, n int) (l []int) {
	least, width := r.signed(), int(r.take(1)[0])
	if width > 64 {
		panic(api.ErrBad)
	}
	b := r.take((n*width + 7) / 8)
	bit := func(at int) uint64 { return uint64(b[at/8] >> (at % 8) & 1) }
	for i := range n {
		var above uint64
		for k := range width {
			above |= bit(i*width+k) << k
		}
		v += least + int(above)
		l = append(l, v)
	}
	for at := n * width; at < 8*len(b); at++ {
		if bit(at) > 0 {
			panic(api.ErrBad)
		}
	}
	return l
}

func (r *reading) ints(n int) (l []int) {
	if n < 0 || n > 4000 {
		panic(api.ErrArg)
	}
	if n > 0 {
		l = append(l, r.signed())
	}
	for len(l) < n {
		l = append(l, r.block(l[len(l)-1], min(32, n-len(l)))...)
	}
	return l
}

func (r *reading) values(kind, n int) (l []api.Value) {
	numbers := r.ints(n)
	for _, v := range numbers {
		switch {
		case kind == api.Int32 && v != int(int32(v)):
			panic(api.ErrOver)
		case kind == api.Bytes && (v < 0 || v > 100):
			panic(api.ErrLong)
		}
	}
	for _, v := range numbers {
		if kind == api.Bytes {
			l = append(l, api.Value{S: string(r.take(v))})
		} else {
			l = append(l, api.Value{N: v})
		}
	}
	if len(r.b) > 0 {
		panic(api.ErrMore)
	}
	return l
}

// wrong runs f and tells the error that it panics of.
func wrong(f func()) (e api.Errno) {
	defer func() { e, _ = recover().(api.Errno) }()
	f()
	return e
}

// readInts is Read by its words.
func readInts(b []byte, n int) (l []int, used int, e api.Errno) {
	r := reading{b}
	if e = wrong(func() { l = r.ints(n) }); e != api.OK {
		return nil, 0, e
	}
	return l, len(b) - len(r.b), api.OK
}

// read is Decode by its words, for a leaf's kind.
func read(kind int, b []byte, n int) (l []api.Value, e api.Errno) {
	if kind == api.Bool {
		return plain.Decode(kind, b, n)
	}
	r := reading{b}
	if e = wrong(func() { l = r.values(kind, n) }); e != api.OK {
		return nil, e
	}
	return l, api.OK
}

// mix tells numbers in whose bits there is no order to be seen.
type mix uint64

const seed = mix(88172645463325252)

func (m *mix) next() uint64 {
	*m ^= *m << 13
	*m ^= *m >> 7
	*m ^= *m << 17
	return uint64(*m)
}

func (m *mix) below(n int) int { return int(m.next() >> 1 % uint64(n)) }

// number is any; those of every length are as likely.
func (m *mix) number() int { return int(m.next()) >> m.below(64) }

// ints are n numbers: their differences are about as long as each other.
func (m *mix) ints(n int) []int {
	l := make([]int, n)
	v, by := m.number(), m.below(64)
	for i := range l {
		l[i] = v
		v += int(m.next()) >> by
	}
	return l
}

// value is one of a kind.
func (m *mix) value(kind int) api.Value {
	switch kind {
	case api.Bool:
		return api.Value{N: m.below(2)}
	case api.Int32:
		return api.Value{N: int(int32(m.next()) >> m.below(32))}
	case api.Int64:
		return api.Value{N: m.number()}
	}
	b := make([]byte, m.below([]int{1, 3, 20, 101}[m.below(4)]))
	for i := range b {
		b[i] = byte(m.next() >> 9)
	}
	return api.Value{S: string(b)}
}

func (m *mix) values(kind, n int) []api.Value {
	l := make([]api.Value, n)
	for i := range l {
		l[i] = m.value(kind)
	}
	return l
}

// spoil changes bytes a little.
func (m *mix) spoil(b []byte) []byte {
	at := m.below(len(b) + 1)
	switch m.below(4) {
	case 0:
		return slices.Clone(b[:at])
	case 1:
		return slices.Insert(slices.Clone(b), at, byte(m.below(256)))
	case 2:
		return slices.Delete(slices.Clone(b), at, min(at+1, len(b)))
	}
	b = slices.Clone(b)
	if at < len(b) {
		b[at] ^= 1 << m.below(8)
	}
	return b
}

// wantInts, wantRead, wantCut ask for what Ints and Read answer.
func wantInts(t *testing.T, l []int, want string) {
	t.Helper()
	if got := delta.Ints(l); string(got) != want {
		t.Errorf("Ints(%v): %x, want %x", l, got, want)
	}
}

func wantRead(t *testing.T, b string, want []int, used int) {
	t.Helper()
	if got, n, e := delta.Read([]byte(b), len(want)); e != api.OK || n != used || !slices.Equal(got, want) {
		t.Errorf("Read(%x, %d): %v, %d, %v, want %v, %d", b, len(want), got, n, e, want, used)
	}
}

func wantNone(t *testing.T, b string, n int, want api.Errno) {
	t.Helper()
	if got, used, e := delta.Read([]byte(b), n); e != want || used != 0 || len(got) != 0 {
		t.Errorf("Read(%x, %d): %v, %d, %v, want %v", b, n, got, used, e, want)
	}
}

// wantIntsAsRead asks for what the words of Read tell.
func wantIntsAsRead(t *testing.T, b []byte, n int) api.Errno {
	t.Helper()
	want, size, wrong := readInts(b, n)
	if got, used, e := delta.Read(b, n); e != wrong || used != size || !slices.Equal(got, want) {
		t.Errorf("Read(%x, %d): %v, %d, %v, want %v, %d, %v", b, n, got, used, e, want, size, wrong)
	}
	return wrong
}

// wantBytes, wantValues, wantError ask for what Encode and Decode answer.
func wantBytes(t *testing.T, kind int, l []api.Value, want string) {
	t.Helper()
	if got := delta.Encode(kind, l); string(got) != want {
		t.Errorf("Encode(%d, %v): %x, want %x", kind, l, got, want)
	}
}

func wantValues(t *testing.T, kind int, b string, want []api.Value) {
	t.Helper()
	if got, e := delta.Decode(kind, []byte(b), len(want)); e != api.OK || !slices.Equal(got, want) {
		t.Errorf("Decode(%d, %x, %d): %v, %v, want %v", kind, b, len(want), got, e, want)
	}
}

func wantError(t *testing.T, kind int, b string, n int, want api.Errno) {
	t.Helper()
	if got, e := delta.Decode(kind, []byte(b), n); e != want || len(got) != 0 {
		t.Errorf("Decode(%d, %x, %d): %v, %v, want %v", kind, b, n, got, e, want)
	}
}

// wantAsRead asks for what the words of Decode tell.
func wantAsRead(t *testing.T, kind int, b []byte, n int) api.Errno {
	t.Helper()
	want, wrong := read(kind, b, n)
	if got, e := delta.Decode(kind, b, n); e != wrong || !slices.Equal(got, want) {
		t.Errorf("Decode(%d, %x, %d): %v, %v, want %v, %v", kind, b, n, got, e, want, wrong)
	}
	return wrong
}

func TestP1201ByHand(t *testing.T) {
	for _, x := range numbers {
		wantInts(t, x.l, x.b)
		wantRead(t, x.b, x.l, len(x.b))
	}
}

func TestP1201IntsOfEveryFew(t *testing.T) {
	few := []int{math.MinInt, -2, -1, 0, 1, 2, math.MaxInt}
	for _, u := range few {
		for _, v := range few {
			for _, w := range few {
				for _, x := range few {
					wantInts(t, []int{u, v, w, x}, string(ints([]int{u, v, w, x})))
				}
			}
		}
	}
}

func TestP1201IntsOfEveryLength(t *testing.T) {
	m := seed
	for n := range 200 {
		for _, l := range [][]int{make([]int, n), squares(n), m.ints(n)} {
			wantInts(t, l, string(ints(l)))
		}
	}
}

func TestP1201IntsOfEveryWidth(t *testing.T) {
	// Of a width, the greatest result has its highest bit alone, or all bits; each place of a block may have it.
	for width := 1; width <= 64; width++ {
		for _, greatest := range []uint64{1 << (width - 1), 1<<width - 1} {
			for at := range 33 {
				l := make([]int, 40)
				for i := range l {
					l[i] = 3 * i
					if i > at {
						l[i] += int(greatest)
					}
				}
				wantInts(t, l, string(ints(l)))
				wantRead(t, string(ints(l)), l, len(ints(l)))
			}
		}
	}
}

func TestP1201IntsByItsWords(t *testing.T) {
	m := seed
	for range 8000 {
		l := m.ints(m.below(120))
		if m.below(2) == 0 {
			for i := range l {
				l[i] = m.number()
			}
		}
		wantInts(t, l, string(ints(l)))
	}
}

func TestP1201IntsMoreThanAreRead(t *testing.T) {
	// Nothing bounds how many numbers are written; as many as these take long, if each one costs as much as all ahead of it.
	m := seed
	for _, n := range []int{3999, 4000, 4001, 1 << 20} {
		l := m.ints(n)
		if got, want := delta.Ints(l), ints(l); !slices.Equal(got, want) {
			t.Errorf("Ints of %d numbers: %d bytes, want %d", n, len(got), len(want))
		}
	}
}

func TestP1201ErrArg(t *testing.T) {
	// It is found ahead of whatever is wrong with the bytes.
	for _, n := range strange {
		for _, b := range []string{"", "\x00", "\x80", "\x80\x00", "\x00\x00\x41", strings.Repeat("\x00", 1000), strings.Repeat("\xff", 10)} {
			wantNone(t, b, n, api.ErrArg)
		}
	}
}

func TestP1201NoNumbers(t *testing.T) {
	for _, b := range []string{"", "\x00", "\x80", "\x80\x00", "\x00\x00\x41", strings.Repeat("\xff", 100)} {
		wantRead(t, b, nil, 0)
	}
}

func TestP1201AsManyAsMayBe(t *testing.T) {
	m := seed
	for _, n := range []int{3968, 3969, 3970, 3999, 4000} {
		wantRead(t, strings.Repeat("\x00", 10000), make([]int, n), 1+(n-1+31)/32*2)
		l := m.ints(n)
		wantRead(t, string(ints(l)), l, len(ints(l)))
	}
}

func TestP1201ReadBytesThatEndEarly(t *testing.T) {
	check := func(b string, n int) {
		t.Helper()
		for i := range len(b) {
			wantNone(t, b[:i], n, api.ErrCut)
		}
	}
	for _, x := range numbers {
		check(x.b, len(x.l))
		if len(x.l) > 0 {
			wantNone(t, x.b[:len(x.b)-1], len(x.l), api.ErrCut)
		}
	}
	m := seed
	for range 200 {
		l := m.ints(m.below(80))
		check(string(ints(l)), len(l))
	}
	for _, n := range []int{1, 2, 4000} {
		wantNone(t, "", n, api.ErrCut)
	}
}

func TestP1201ReadBytesBehind(t *testing.T) {
	// They are not looked at.
	for _, x := range numbers {
		for _, more := range []string{"\x00", "\x01", "\x80", "\xff", "\x00\x00\x41", strings.Repeat("\xff", 300), strings.Repeat("\x00", 5000)} {
			wantRead(t, x.b+more, x.l, len(x.b))
		}
	}
}

func TestP1201EveryWidth(t *testing.T) {
	ones := strings.Repeat("\xff", 300)
	for width := range 256 {
		for _, n := range []int{1, 8, 32} { // results of which nothing is left in their last byte, but for n = 1
			head := "\x04\x01" + string([]byte{byte(width)})
			used := 3 + (n*width+7)/8
			l := []int{2}
			for i := range n {
				l = append(l, l[i]-1+int(uint64(1)<<width-1))
			}
			switch {
			case width > 64:
				wantNone(t, head, n+1, api.ErrBad) // found ahead of the bytes that are missing
				wantNone(t, head+ones, n+1, api.ErrBad)
				wantNone(t, head+strings.Repeat("\x00", 3000), n+1, api.ErrBad)
			case n*width%8 > 0:
				wantNone(t, head+ones, n+1, api.ErrBad)
			default:
				wantRead(t, head+ones, l, used)
			}
			if width > 0 && width <= 64 {
				wantNone(t, head, n+1, api.ErrCut)
				wantNone(t, head+ones[:used-4], n+1, api.ErrCut)
			}
		}
	}
}

func TestP1201BitsBehindTheResults(t *testing.T) {
	for n := 1; n <= 32; n++ {
		for width := range 65 {
			for at := n * width; at%8 > 0; at++ {
				b := make([]byte, (n*width+7)/8)
				b[at/8] = 1 << (at % 8)
				wantNone(t, "\x00\x00"+string([]byte{byte(width)})+string(b), n+1, api.ErrBad)
				// A bit that belongs to the results is none behind them.
				b[at/8] = 1 << ((n*width - 1) % 8)
				l := make([]int, n+1)
				l[n] = 1 << (width - 1)
				wantRead(t, "\x00\x00"+string([]byte{byte(width)})+string(b), l, 3+len(b))
			}
		}
	}
}

func TestP1201BitsBehindEachBlock(t *testing.T) {
	// 40 numbers: a block of 32 of one bit each, behind which nothing is left, and one of 7.
	head := "\x00\x00\x01\xff\xff\xff\xff\x00\x01"
	for c := range 256 {
		b := head + string([]byte{byte(c)})
		if c > 127 {
			wantNone(t, b, 40, api.ErrBad)
			continue
		}
		_, _, e := delta.Read([]byte(b), 40)
		if e != api.OK {
			t.Errorf("Read(%x, 40): %v", b, e)
		}
	}
	// A block of 31 has one bit behind, also where another number lies ahead of it.
	wantNone(t, "\x00\x00\x01\xff\xff\xff\xff", 32, api.ErrBad)
	wantNone(t, "\x00\x00\x01\x00\x00\x00\x80\x00\x00", 32, api.ErrBad)
	wantRead(t, "\x00\x00\x01\x00\x00\x00\x80\x00\x00", append(make([]int, 32), 1), 7)
}

func TestP1201WrongVarints(t *testing.T) {
	over := strings.Repeat("\xff", 9) + "\x02"
	heads := []struct {
		b string
		n int // how many numbers lie ahead of what is read next
	}{{"", 0}, {"\x05", 1}, {"\x05\x00\x00", 33}, {"\x05\x00\x00\x03\x00", 65}, {"\x00\x00\x01\x00\x00\x00\x80", 33}}
	for _, h := range heads {
		for k := 1; k <= 40; k += 13 {
			wantNone(t, h.b+over, h.n+k, api.ErrOver)
			wantNone(t, h.b+over+strings.Repeat("\x00", 100), h.n+k, api.ErrOver)
			wantNone(t, h.b+strings.Repeat("\x80", 9), h.n+k, api.ErrCut)
			wantNone(t, h.b+strings.Repeat("\x80", 9)+"\x80\x00\x00", h.n+k, api.ErrOver)
			wantNone(t, h.b+strings.Repeat("\x80", 9)+"\x00\x00\x00", h.n+k, api.ErrBad)
			wantNone(t, h.b+"\x80\x00", h.n+k, api.ErrBad)
			wantNone(t, h.b+"\xff\x80\x00\x41", h.n+k, api.ErrBad)
			wantNone(t, h.b+"\x80", h.n+k, api.ErrCut)
			wantNone(t, h.b, h.n+k, api.ErrCut)
		}
	}
}

func TestP1201OtherForms(t *testing.T) {
	// Ints writes none of these; Read refuses only what the promise names.
	for _, x := range []struct {
		b string
		l []int
	}{
		{"\x00\x02\x01\x03", []int{0, 2, 4}},                                         // a difference that all are above
		{"\x00\x00\x01\x01", []int{0, 1}},                                            // of one
		{"\x00\x00\x01\x00", []int{0, 0}},                                            // bits that none needs
		{"\x00\x02\x40\x00\x00\x00\x00\x00\x00\x00\x00", []int{0, 1}},                // all bits
		{"\x00\x02\x40\xff\xff\xff\xff\xff\xff\xff\xff", []int{0, 0}},                // 1 and the greatest result: it wraps
		{"\x00\x00\x40\xff\xff\xff\xff\xff\xff\xff\xff", []int{0, -1}},               // the greatest result is -1
		{"\x01\x01\x40\x00\x00\x00\x00\x00\x00\x00\x80", []int{-1, 1<<63 - 2}},       // -1 - 1 + 1<<63
		{"\x01\xff\xff\xff\xff\xff\xff\xff\xff\xff\x01\x00", []int{-1, math.MaxInt}}, // it wraps downwards
	} {
		wantRead(t, x.b, x.l, len(x.b))
	}
}

func TestP1201FoundFirst(t *testing.T) {
	for _, x := range []struct {
		b    string
		n    int
		want api.Errno
	}{
		{"\x00\x00\x41", 1, api.OK},
		{"\x00\x00\x41", 2, api.ErrBad},
		{"\x00\x00\x41", 4001, api.ErrArg},
		{"\x00\x80\x41", 2, api.ErrCut},
		{"\x00\x80\x00\x41", 2, api.ErrBad},
		{"\x00\x00\x40", 2, api.ErrCut},
		{"\x00\x00\x01\x02", 2, api.ErrBad},
		{"\x00\x00\x01\x02", 3, api.OK},
		{"\x00\x00\x01\x04", 3, api.ErrBad},
		{"\x00\x00\x01\xff", 9, api.OK},
		{"\x00\x00\x01\xff", 10, api.ErrCut},
		{"\x00\x00\x01\xff\x02", 10, api.ErrBad},
		{"\x00\x00\x09\xff", 2, api.ErrCut}, // the bits behind the results lie in the byte that is missing
		{"\x00\x00\x09\xff\xff", 2, api.ErrBad},
		{"\x00\x00\x01\xff\xff\xff\xff", 32, api.ErrBad},
		{"\x00\x00\x01\xff\xff\xff\xff", 33, api.OK},
		{"\x00\x00\x01\xff\xff\xff\xff", 34, api.ErrCut},
		{"\x00\x00\x01\xff\xff\xff\xff\x00\xff", 34, api.ErrBad},
		{"\x00\x00\x01\xff\xff\xff", 33, api.ErrCut},
	} {
		if l, used, e := delta.Read([]byte(x.b), x.n); e != x.want || e != api.OK && (len(l) != 0 || used != 0) {
			t.Errorf("Read(%x, %d): %v, %d, %v, want %v", x.b, x.n, l, used, e, x.want)
		}
	}
}

func TestP1201ReadEveryTwoBytes(t *testing.T) {
	for x := range 1 << 16 {
		two := []byte{byte(x), byte(x >> 8)}
		for n := range 4 {
			wantIntsAsRead(t, two, n)
			wantIntsAsRead(t, append([]byte{3}, two...), n)
			wantIntsAsRead(t, append([]byte{3}, append(two, 1, 0, 0)...), n)
		}
		wantIntsAsRead(t, append([]byte{3, 4}, two...), 5)
	}
}

func TestP1201ReadByItsWords(t *testing.T) {
	m := seed
	seen := map[api.Errno]int{}
	for range 40000 {
		l := m.ints(m.below([]int{4, 12, 100}[m.below(3)]))
		b := ints(l)
		for range m.below(3) {
			b = m.spoil(b)
		}
		seen[wantIntsAsRead(t, b, max(0, len(l)+m.below(3)-1))]++
	}
	for range 40000 {
		b := make([]byte, m.below(30))
		for k := range b {
			b[k] = byte(m.below([]int{1, 3, 80, 256}[m.below(4)]))
		}
		seen[wantIntsAsRead(t, b, m.below(10))]++
	}
	for range 20000 {
		b := slices.Repeat([]byte{0x80 | byte(m.below(128))}, 7+m.below(3))
		b = append(b, byte(m.next()>>7), byte(m.below(3)), byte(m.below(80)))
		seen[wantIntsAsRead(t, b, m.below(4))]++
	}
	for _, e := range []api.Errno{api.OK, api.ErrCut, api.ErrBad, api.ErrOver} {
		if seen[e] < 500 {
			t.Errorf("%v was seen %d times", e, seen[e])
		}
	}
}

func TestP1202ByHand(t *testing.T) {
	for _, x := range printed {
		wantBytes(t, x.kind, x.l, x.b)
		wantValues(t, x.kind, x.b, x.l)
	}
}

func TestP1202BoolsAsByPlain(t *testing.T) {
	for n := range 13 {
		for x := range 1 << n {
			l := make([]api.Value, n)
			for i := range l {
				l[i].N = x >> i & 1
			}
			wantBytes(t, api.Bool, l, string(plain.Encode(api.Bool, l)))
		}
	}
	for x := range 1 << 16 {
		two := []byte{byte(x), byte(x >> 8)}
		for n := range 18 {
			wantAsRead(t, api.Bool, two, n)
		}
		wantAsRead(t, api.Bool, two[:1], x>>8)
	}
}

func TestP1202EncodeBytesOfEveryLength(t *testing.T) {
	for n := range api.MaxValue + 1 {
		head := string(binary.AppendVarint(nil, int64(n)))
		wantBytes(t, api.Bytes, ss(y(n)), head+y(n))
		wantBytes(t, api.Bytes, ss(y(n), y(n), y(n)), head+"\x00\x00"+y(3*n))
		wantValues(t, api.Bytes, head+y(n), ss(y(n)))
		wantValues(t, api.Bytes, head+"\x00\x00"+y(n)+strings.Repeat("z", n)+y(n), ss(y(n), strings.Repeat("z", n), y(n)))
	}
}

func TestP1202EncodeByItsWords(t *testing.T) {
	m := seed
	for i := range 8000 {
		kind := kinds[i%4]
		l := m.values(kind, m.below(100))
		wantBytes(t, kind, l, string(written(kind, l)))
	}
}

func TestP1202EncodeMoreThanIsDecoded(t *testing.T) {
	m := seed
	for _, kind := range kinds {
		for _, n := range []int{3999, 4000, 4001, 1 << 19} {
			l := m.values(kind, n)
			if got, want := delta.Encode(kind, l), written(kind, l); !slices.Equal(got, want) {
				t.Errorf("Encode of %d values of kind %d: %d bytes, want %d", n, kind, len(got), len(want))
			}
		}
	}
}

func TestP1202ErrArgKind(t *testing.T) {
	for _, kind := range append(strange, api.Group, 5, 6, 8, 256, 257, 260) {
		for _, b := range []string{"", "\x00", "\x01", "\x80\x00", "\x00\x00\x41", strings.Repeat("\xff", 10)} {
			for _, n := range []int{-1, 0, 1, 2, 4000, 4001} {
				wantError(t, kind, b, n, api.ErrArg)
			}
		}
	}
}

func TestP1202ErrArgHowMany(t *testing.T) {
	for _, kind := range kinds {
		for _, n := range strange {
			for _, b := range []string{"", "\x02", "\x80\x00", "\x00\x00\x41", strings.Repeat("\x00", 501), strings.Repeat("\xff", 10)} {
				wantError(t, kind, b, n, api.ErrArg)
			}
		}
	}
}

func TestP1202NoValues(t *testing.T) {
	for _, kind := range kinds {
		wantValues(t, kind, "", nil)
		for _, b := range []string{"\x00", "\x01", "\x80", "\x80\x00", "\x00\x00\x41", strings.Repeat("\xff", 10)} {
			wantError(t, kind, b, 0, api.ErrMore)
		}
	}
}

func TestP1202AsManyAsMayBe(t *testing.T) {
	m := seed
	for _, kind := range kinds {
		for n := 3990; n <= 4000; n++ {
			l := m.values(kind, n)
			wantValues(t, kind, string(written(kind, l)), l)
		}
	}
	wantValues(t, api.Bytes, "\xc8\x01"+strings.Repeat("\x00", 250)+y(100*4000), slices.Repeat(ss(y(100)), 4000))
}

func TestP1202NumbersThatDoNotFit(t *testing.T) {
	for _, v := range []int{math.MaxInt32 + 1, math.MaxInt32 + 2, math.MinInt32 - 1, math.MinInt32 - 2, 1 << 32, 1<<32 - 1, 1<<32 + 5, -1 << 32, 1 << 40, math.MaxInt, math.MinInt} {
		for _, l := range [][]int{{v}, {v, 1}, {1, v}, {math.MaxInt32, v, math.MinInt32}, append(make([]int, 40), v), append([]int{v}, make([]int, 40)...)} {
			b := string(ints(l))
			wantError(t, api.Int32, b, len(l), api.ErrOver)
			wantError(t, api.Int32, b+"\x00", len(l), api.ErrOver) // ahead of the bytes that are left
			wantError(t, api.Int32, b[:len(b)-1], len(l), api.ErrCut)
			wantValues(t, api.Int64, b, ns(l...))
			wantError(t, api.Int64, b+"\x00", len(l), api.ErrMore)
		}
	}
	for _, v := range []int{math.MaxInt32, math.MaxInt32 - 1, math.MinInt32, math.MinInt32 + 1} {
		wantValues(t, api.Int32, string(ints([]int{v, 0, v})), ns(v, 0, v))
	}
	// Numbers that fit have differences that don't, and the way between them may wrap round.
	wantValues(t, api.Int32, "\x00\xff\xff\xff\xff\xff\xff\xff\xff\xff\x01\x40\x00\x00\x00\x00\x00\x00\x00\x80", ns(0, 0))
}

func TestP1202LengthsThatMayNotBe(t *testing.T) {
	for _, v := range []int{101, 102, 127, 128, 200, 255, 256, 300, 1 << 16, 1 << 32, 1<<32 + 5, math.MaxInt, -1, -2, -100, math.MinInt, math.MinInt + 5} {
		for _, l := range [][]int{{v}, {v, 1}, {1, v}, {100, v, 0}, append(make([]int, 40), v), append([]int{v}, make([]int, 40)...)} {
			b := string(ints(l))
			// It is found ahead of the bytes that are missing, or left.
			for _, behind := range []int{0, 1, 2, 99, 100, 101, 102, 201, 300, 500} {
				wantError(t, api.Bytes, b+y(behind), len(l), api.ErrLong)
			}
			wantError(t, api.Bytes, b[:len(b)-1], len(l), api.ErrCut)
		}
	}
}

func TestP1202TextsThatEndEarly(t *testing.T) {
	for _, l := range [][]string{{"a"}, {"abc"}, {"a", "b"}, {"", "abc", ""}, {"abc", ""}, {y(100)}, {y(100), "a", y(50)}, slices.Repeat([]string{"ab"}, 40)} {
		b := string(delta.Encode(api.Bytes, ss(l...)))
		for i := range len(b) {
			wantError(t, api.Bytes, b[:i], len(l), api.ErrCut)
		}
		for i := 1; i < 200; i++ {
			wantError(t, api.Bytes, b+y(i), len(l), api.ErrMore)
		}
	}
}

func TestP1202BytesThatEndEarly(t *testing.T) {
	check := func(kind int, b string, n int) {
		t.Helper()
		for i := range len(b) {
			wantError(t, kind, b[:i], n, api.ErrCut)
		}
	}
	for _, x := range printed {
		check(x.kind, x.b, len(x.l))
	}
	m := seed
	for i := range 400 {
		kind := kinds[i%4]
		l := m.values(kind, m.below(40))
		check(kind, string(delta.Encode(kind, l)), len(l))
	}
	for _, kind := range kinds {
		for _, n := range []int{1, 2, 4000} {
			wantError(t, kind, "", n, api.ErrCut)
		}
	}
}

func TestP1202BytesBehind(t *testing.T) {
	for _, x := range printed {
		for _, more := range []string{"\x00", "\x01", "\x80", "\xff", "\x00\x00\x41", strings.Repeat("\xff", 10), strings.Repeat("\x00", 5000)} {
			wantError(t, x.kind, x.b+more, len(x.l), api.ErrMore)
		}
	}
}

func TestP1202FoundFirst(t *testing.T) {
	for _, x := range []struct {
		kind int
		b    string
		n    int
		want api.Errno
	}{
		{api.Group, "\x80\x00", 4001, api.ErrArg},
		{api.Bytes, "\x80\x00", 4001, api.ErrArg},
		{api.Bytes, "\x80\x00", 1, api.ErrBad},
		{api.Bytes, "\x80\x00", 0, api.ErrMore},
		{api.Int32, strings.Repeat("\xff", 9) + "\x02", 1, api.ErrOver},
		{api.Bytes, strings.Repeat("\xff", 9) + "\x02", 1, api.ErrOver},
		{api.Int64, strings.Repeat("\xff", 9) + "\x02", 1, api.ErrOver},
		{api.Int32, "\xff\xff\xff\xff\x1f\x00\x41", 1, api.ErrOver},
		{api.Int32, "\xff\xff\xff\xff\x1f\x00\x41", 2, api.ErrBad}, // the error of Read, behind the number that doesn't fit
		{api.Int32, "\xff\xff\xff\xff\x1f\x00", 2, api.ErrCut},
		{api.Bytes, "\xca\x01\x00\x41", 1, api.ErrLong},
		{api.Bytes, "\xca\x01\x00\x41", 2, api.ErrBad},
		{api.Bytes, "\xca\x01\x00", 2, api.ErrCut},
		{api.Bytes, "\x01\x02\x00", 2, api.ErrLong},
		{api.Bytes, "\x04\x05\x00", 2, api.ErrLong}, // 2, -1: no byte is left for the first one
		{api.Bytes, "\x04\x05\x00a", 2, api.ErrLong},
		{api.Bytes, "\x04\x05\x00abc", 2, api.ErrLong},
		{api.Bytes, "\x04\x00\x00abc", 2, api.ErrCut},
		{api.Bytes, "\x04\x00\x00abcd", 2, api.OK},
		{api.Bytes, "\x04\x00\x00abcde", 2, api.ErrMore},
	} {
		if l, e := delta.Decode(x.kind, []byte(x.b), x.n); e != x.want || e != api.OK && len(l) != 0 {
			t.Errorf("Decode(%d, %x, %d): %v, %v, want %v", x.kind, x.b, x.n, l, e, x.want)
		}
	}
}

func TestP1202DecodeEveryTwoBytes(t *testing.T) {
	for x := range 1 << 16 {
		two := []byte{byte(x), byte(x >> 8)}
		for _, kind := range kinds {
			for n := range 3 {
				wantAsRead(t, kind, two, n)
				wantAsRead(t, kind, append([]byte{3}, two...), n)
				wantAsRead(t, kind, append(two, 0, 'y'), n)
			}
		}
	}
}

func TestP1202DecodeByItsWords(t *testing.T) {
	m := seed
	seen := map[api.Errno]int{}
	for i := range 80000 {
		kind := kinds[i%4]
		l := m.values(kind, m.below(12))
		if kind != api.Bool && m.below(8) == 0 {
			kind = kinds[1+m.below(3)] // values of another kind
		}
		b := written(kind, l)
		for range m.below(3) {
			b = m.spoil(b)
		}
		seen[wantAsRead(t, kind, b, max(0, len(l)+m.below(3)-1))]++
	}
	for i := range 80000 {
		b := make([]byte, m.below(30))
		for k := range b {
			b[k] = byte(m.below([]int{1, 3, 80, 256}[m.below(4)]))
		}
		seen[wantAsRead(t, kinds[i%4], b, m.below(10))]++
	}
	for i := range 20000 {
		b := append(ints(m.ints(m.below(5))), y(m.below(3))...)
		seen[wantAsRead(t, kinds[i%4], b, m.below(6))]++
	}
	for _, e := range []api.Errno{api.OK, api.ErrCut, api.ErrBad, api.ErrLong, api.ErrMore, api.ErrOver} {
		if seen[e] < 500 {
			t.Errorf("%v was seen %d times", e, seen[e])
		}
	}
}

func TestP1203WhatWasEncoded(t *testing.T) {
	m := seed
	for i := range 8000 {
		kind := kinds[i%4]
		l := m.values(kind, m.below(100))
		wantValues(t, kind, string(delta.Encode(kind, l)), l)
	}
	for range 4000 {
		l := m.ints(m.below(100))
		b := string(delta.Ints(l))
		wantRead(t, b, l, len(b))
		wantRead(t, b+"\xff\x80", l, len(b))
	}
	for _, kind := range kinds {
		for n := 3990; n <= 4000; n++ {
			l := m.values(kind, n)
			wantValues(t, kind, string(delta.Encode(kind, l)), l)
		}
	}
}

func TestP1AnyArguments(t *testing.T) {
	odd := []api.Value{{}, {N: 2}, {N: -1}, {N: math.MinInt}, {N: math.MaxInt}, {N: 1 << 31}, {N: 1 << 32}, {S: y(101)}, {S: y(1 << 20)}, {N: 7, S: "x"}}
	for _, kind := range append(strange, 0, 1, 2, 3, 4, 5, 6) {
		for _, l := range [][]api.Value{nil, {}, odd, slices.Repeat(odd[3:4], 1000)} {
			delta.Encode(kind, l)
		}
		for _, n := range append(strange, 0, 1, 2, 34, 4000) {
			for _, b := range []string{"", "\x00", "\x01\x00\x00\x00", strings.Repeat("\xff", 1000), strings.Repeat("\x00", 1000), strings.Repeat("\x01", 1000), strings.Repeat("\x40", 1000)} {
				delta.Decode(kind, []byte(b), n)
				delta.Read([]byte(b), n)
			}
		}
	}
	// Of no kind are no values: what is none is not written as another's.
	for _, kind := range append(strange, api.Group, 5) {
		wantBytes(t, kind, odd, "")
	}
}

func TestP1LongBytes(t *testing.T) {
	// As many values as may be, and many bytes behind them: they take long, if each value costs as much as all behind it.
	behind := strings.Repeat("\x00", 1<<24)
	for _, kind := range kinds {
		wantError(t, kind, behind, 4000, api.ErrMore)
	}
	wantRead(t, behind, make([]int, 4000), 251)
	wantError(t, api.Bytes, "\xca\x01"+behind, 4000, api.ErrLong)
	wantError(t, api.Bytes, "\xc8\x01"+strings.Repeat("\x00", 250)+behind, 4000, api.ErrMore)
}

func TestP2ArgumentsAreLeft(t *testing.T) {
	more := []api.Value{{N: 7, S: "more"}, {N: -1}}
	for _, x := range numbers {
		l := slices.Concat(x.l, []int{7, -1})
		delta.Ints(l[:len(x.l)])
		if !slices.Equal(l, slices.Concat(x.l, []int{7, -1})) {
			t.Errorf("Ints(%v) writes into its argument: %v", x.l, l)
		}
		b := append([]byte(x.b), "and what lies behind"...)
		for n := range len(b) {
			delta.Read(b[:n], len(x.l))
		}
		if string(b) != x.b+"and what lies behind" {
			t.Errorf("Read(%x, %d) writes into its argument: %x", x.b, len(x.l), b)
		}
	}
	for _, x := range printed {
		l := slices.Concat(x.l, more)
		delta.Encode(x.kind, l[:len(x.l)])
		delta.Encode(api.Group, l[:len(x.l)])
		if !slices.Equal(l, slices.Concat(x.l, more)) {
			t.Errorf("Encode(%d, %v) writes into its argument: %v", x.kind, x.l, l)
		}
		b := append([]byte(x.b), "and what lies behind"...)
		for n := range len(b) {
			for _, kind := range kinds {
				delta.Decode(kind, b[:n], len(x.l))
			}
		}
		if string(b) != x.b+"and what lies behind" {
			t.Errorf("Decode(%d, %x, %d) writes into its argument: %x", x.kind, x.b, len(x.l), b)
		}
	}
}

func TestP2ResultsOfNumbersAreNew(t *testing.T) {
	for _, x := range numbers {
		l := slices.Clone(x.l)
		b, other := delta.Ints(l), delta.Ints(l)
		clear(l)
		clear(other[:cap(other)])
		if string(b) != x.b {
			t.Errorf("what Ints(%v) answers changes with its argument, or with another answer", x.l)
		}
		from := []byte(x.b)
		got, _, _ := delta.Read(from, len(x.l))
		again, _, _ := delta.Read(from, len(x.l))
		clear(from)
		clear(again[:cap(again)])
		if !slices.Equal(got, x.l) {
			t.Errorf("what Read(%x) answers changes with its argument, or with another answer", x.b)
		}
	}
}

func TestP2ResultsAreNew(t *testing.T) {
	for _, x := range printed {
		l := slices.Clone(x.l)
		b, other := delta.Encode(x.kind, l), delta.Encode(x.kind, l)
		clear(l)
		clear(other[:cap(other)])
		if string(b) != x.b {
			t.Errorf("what Encode(%d, %v) answers changes with its argument, or with another answer", x.kind, x.l)
		}
		from := []byte(x.b)
		got, _ := delta.Decode(x.kind, from, len(x.l))
		again, _ := delta.Decode(x.kind, from, len(x.l))
		clear(from)
		clear(again[:cap(again)])
		if !slices.Equal(got, x.l) {
			t.Errorf("what Decode(%d, %x) answers changes with its argument, or with another answer", x.kind, x.b)
		}
	}
}

func TestP3TheSameCalls(t *testing.T) {
	for range 3 {
		for _, x := range numbers {
			wantInts(t, x.l, x.b)
			wantRead(t, x.b, x.l, len(x.b))
			wantNone(t, x.b, 4001, api.ErrArg)
		}
		for _, x := range printed {
			wantBytes(t, x.kind, x.l, x.b)
			wantValues(t, x.kind, x.b, x.l)
			wantError(t, x.kind, x.b+"\x00", len(x.l), api.ErrMore)
			wantError(t, api.Group, x.b, len(x.l), api.ErrArg)
		}
	}
}

func TestP4NothingBesideAnError(t *testing.T) {
	// Numbers, and values, were read ahead of the error.
	for _, b := range []string{"\x02", "\x02\x00", "\x02\x00\x41", "\x02\x00\x01", "\x02\x00\x01\x04", "\x02\x80\x00"} {
		if l, used, e := delta.Read([]byte(b), 3); e == api.OK || used != 0 || len(l) != 0 {
			t.Errorf("Read(%x): %v, %d, %v", b, l, used, e)
		}
	}
	for _, x := range []struct {
		kind int
		b    string
	}{{api.Bool, "\x07"}, {api.Bool, "\x03\x00"}, {api.Int32, "\x02\x00"}, {api.Int32, "\x02\x00\x00\x00"}, {api.Int32, "\x02\xfe\xff\xff\xff\x0f\x00"}, {api.Int64, "\x02\x00\x41"}, {api.Int64, "\x02\x00\x00\x00"}, {api.Bytes, "\x02\x00\x00a"}, {api.Bytes, "\x02\x00\x00abc"}, {api.Bytes, "\x02\xc8\x01\x00a"}, {api.Bytes, "\x02\x03\x00a"}} {
		if l, e := delta.Decode(x.kind, []byte(x.b), 2); e == api.OK || len(l) != 0 {
			t.Errorf("Decode(%d, %x): %v, %v", x.kind, x.b, l, e)
		}
	}
}
