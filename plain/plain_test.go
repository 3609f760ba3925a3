package plain_test

import (
	"encoding/binary"
	"math"
	"slices"
	"strings"
	"testing"

	"shredder/api"
	"shredder/plain"
)

// kinds are those of leaves; strange are numbers that are none, and no counts of values either.
var (
	kinds   = []int{api.Bool, api.Int32, api.Int64, api.Bytes}
	strange = []int{math.MinInt, math.MinInt + 1, -1 << 32, 1 - 1<<32, -4000, -4, -2, -1, 4001, 4008, 1 << 16, 1 << 32, 1<<32 + 1, 1<<32 + 4, 1 << 62, math.MaxInt}
)

// ns, ss are values of numbers, of texts.
func ns(l ...int) (values []api.Value) {
	for _, n := range l {
		values = append(values, api.Value{N: n})
	}
	return values
}

func ss(l ...string) (values []api.Value) {
	for _, s := range l {
		values = append(values, api.Value{S: s})
	}
	return values
}

// y is a text of n bytes.
func y(n int) string { return strings.Repeat("y", n) }

// times are n times the value v.
func times(n int, v api.Value) []api.Value { return slices.Repeat([]api.Value{v}, n) }

// printed are values and what they are as bytes, worked out by hand.
var printed = []struct {
	kind int
	l    []api.Value
	b    string
}{
	{api.Bool, nil, ""},
	{api.Bool, ns(0), "\x00"},
	{api.Bool, ns(1), "\x01"},
	{api.Bool, ns(1, 0, 1), "\x05"},
	{api.Bool, ns(0, 0, 0, 0, 0, 0, 0, 1), "\x80"},
	{api.Bool, ns(1, 1, 1, 1, 1, 1, 1, 1), "\xff"},
	{api.Bool, ns(0, 0, 0, 0, 0, 0, 0, 0, 1), "\x00\x01"},
	{api.Bool, ns(1, 1, 0, 1, 0, 0, 0, 0, 0, 1, 1, 0), "\x0b\x06"},
	{api.Bool, ns(0, 1, 0, 1, 0, 1, 0, 1, 1, 0, 1, 0, 1, 0, 1, 0), "\xaa\x55"},
	{api.Int32, nil, ""},
	{api.Int32, ns(0), "\x00\x00\x00\x00"},
	{api.Int32, ns(1), "\x01\x00\x00\x00"},
	{api.Int32, ns(-1), "\xff\xff\xff\xff"},
	{api.Int32, ns(255, 256, -256), "\xff\x00\x00\x00\x00\x01\x00\x00\x00\xff\xff\xff"},
	{api.Int32, ns(0x01020304, -2), "\x04\x03\x02\x01\xfe\xff\xff\xff"},
	{api.Int32, ns(math.MaxInt32, math.MinInt32), "\xff\xff\xff\x7f\x00\x00\x00\x80"},
	{api.Int32, ns(math.MaxInt32-1, math.MinInt32+1), "\xfe\xff\xff\x7f\x01\x00\x00\x80"},
	{api.Int64, nil, ""},
	{api.Int64, ns(0), "\x00\x00\x00\x00\x00\x00\x00\x00"},
	{api.Int64, ns(-1, 258), "\xff\xff\xff\xff\xff\xff\xff\xff\x02\x01\x00\x00\x00\x00\x00\x00"},
	{api.Int64, ns(0x0102030405060708), "\x08\x07\x06\x05\x04\x03\x02\x01"},
	{api.Int64, ns(math.MaxInt32+1, math.MinInt32-1), "\x00\x00\x00\x80\x00\x00\x00\x00\xff\xff\xff\x7f\xff\xff\xff\xff"},
	{api.Int64, ns(math.MaxInt64, math.MinInt64), "\xff\xff\xff\xff\xff\xff\xff\x7f\x00\x00\x00\x00\x00\x00\x00\x80"},
	{api.Bytes, nil, ""},
	{api.Bytes, ss(""), "\x00\x00\x00\x00"},
	{api.Bytes, ss("a"), "\x01\x00\x00\x00a"},
	{api.Bytes, ss("", "hi", "", ""), "\x00\x00\x00\x00\x02\x00\x00\x00hi\x00\x00\x00\x00\x00\x00\x00\x00"},
	{api.Bytes, ss("\x00", "\x00\x00\x00\x00"), "\x01\x00\x00\x00\x00\x04\x00\x00\x00\x00\x00\x00\x00"},
	{api.Bytes, ss("\xff\xc3(", "\u00e9\u20ac", "\xed\xa0\x80"), "\x03\x00\x00\x00\xff\xc3(\x05\x00\x00\x00\u00e9\u20ac\x03\x00\x00\x00\xed\xa0\x80"},
	{api.Bytes, ss("\x05\x00\x00\x00", "12"), "\x04\x00\x00\x00\x05\x00\x00\x00\x02\x00\x00\x0012"},
	{api.Bytes, ss(y(99), y(100)), "\x63\x00\x00\x00" + y(99) + "\x64\x00\x00\x00" + y(100)},
}

// written is Encode by its words.
func written(kind int, l []api.Value) (b []byte) {
	if kind == api.Bool {
		b = make([]byte, (len(l)+7)/8)
	}
	for i, v := range l {
		switch kind {
		case api.Bool:
			b[i/8] |= byte(v.N) << (i % 8)
		case api.Int32:
			b = binary.LittleEndian.AppendUint32(b, uint32(int32(v.N)))
		case api.Int64:
			b = binary.LittleEndian.AppendUint64(b, uint64(v.N))
		case api.Bytes:
			b = append(binary.LittleEndian.AppendUint32(b, uint32(len(v.S))), v.S...)
		}
	}
	return b
}

// reading reads by the words of Decode; what is wrong is a panic of its error.
type reading struct{ b []byte }

func (r *reading) take(n int) []byte {
	if n > len(r.b) {
		panic(api.ErrCut)
	}
	b := r.b[:n]
	r.b = r.b[n:]
	return b
}

func (r *reading) value(kind int) (v api.Value) {
	switch kind {
	case api.Int32:
		v.N = int(int32(binary.LittleEndian.Uint32(r.take(4))))
	case api.Int64:
		v.N = int(int64(binary.LittleEndian.Uint64(r.take(8))))
	case api.Bytes:
		n := binary.LittleEndian.Uint32(r.take(4))
		if n > 100 {
			panic(api.ErrLong)
		}
		v.S = string(r.take(int(n)))
	}
	return v
}

func (r *reading) bools(n int) (l []api.Value) {
	b := r.take((n + 7) / 8)
	if len(r.b) > 0 {
		panic(api.ErrMore)
	}
	for i := range 8 * len(b) {
		bit := int(b[i/8] >> (i % 8) & 1)
		if i < n {
			l = append(l, api.Value{N: bit})
		} else if bit > 0 {
			panic(api.ErrBad)
		}
	}
	return l
}

// read is Decode by its words, for a kind and a number of values that may be.
func read(kind int, b []byte, n int) (l []api.Value, e api.Errno) {
	defer func() {
		if wrong, ok := recover().(api.Errno); ok {
			l, e = nil, wrong
		}
	}()
	r := reading{b}
	if kind == api.Bool {
		return r.bools(n), api.OK
	}
	for len(l) < n {
		l = append(l, r.value(kind))
	}
	if len(r.b) > 0 {
		panic(api.ErrMore)
	}
	return l, api.OK
}

// mix tells numbers in whose bits there is no order to be seen.
type mix uint64

const seed = mix(88172645463325252)

func (m *mix) next() uint64 {
	*m ^= *m << 13
	*m ^= *m >> 7
	*m ^= *m << 17
	return uint64(*m)
}

func (m *mix) below(n int) int { return int(m.next() >> 1 % uint64(n)) }

// value is one of a kind; numbers of every length are as likely.
func (m *mix) value(kind int) api.Value {
	switch kind {
	case api.Bool:
		return api.Value{N: m.below(2)}
	case api.Int32:
		return api.Value{N: int(int32(m.next()) >> m.below(32))}
	case api.Int64:
		return api.Value{N: int(m.next()) >> m.below(64)}
	}
	b := make([]byte, m.below([]int{1, 3, 20, 101}[m.below(4)]))
	for i := range b {
		b[i] = byte(m.next() >> 9)
	}
	return api.Value{S: string(b)}
}

func (m *mix) values(kind, n int) []api.Value {
	l := make([]api.Value, n)
	for i := range l {
		l[i] = m.value(kind)
	}
	return l
}

// spoil changes bytes a little.
func (m *mix) spoil(b []byte) []byte {
	at := m.below(len(b) + 1)
	switch m.below(4) {
	case 0:
		return slices.Clone(b[:at])
	case 1:
		return slices.Insert(slices.Clone(b), at, byte(m.below(256)))
	case 2:
		return slices.Delete(slices.Clone(b), at, min(at+1, len(b)))
	}
	b = slices.Clone(b)
	if at < len(b) {
		b[at] ^= 1 << m.below(8)
	}
	return b
}

// wantBytes, wantValues, wantError ask for what Encode and Decode answer.
func wantBytes(t *testing.T, kind int, l []api.Value, want string) {
	t.Helper()
	if got := plain.Encode(kind, l); string(got) != want {
		t.Errorf("Encode(%d, %v): %x, want %x", kind, l, got, want)
	}
}

func wantValues(t *testing.T, kind int, b string, want []api.Value) {
	t.Helper()
	if got, e := plain.Decode(kind, []byte(b), len(want)); e != api.OK || !slices.Equal(got, want) {
		t.Errorf("Decode(%d, %x, %d): %v, %v, want %v", kind, b, len(want), got, e, want)
	}
}

func wantError(t *testing.T, kind int, b string, n int, want api.Errno) {
	t.Helper()
	if got, e := plain.Decode(kind, []byte(b), n); e != want || len(got) != 0 {
		t.Errorf("Decode(%d, %x, %d): %v, %v, want %v", kind, b, n, got, e, want)
	}
}

// wantAsRead asks for what the words of Decode tell.
func wantAsRead(t *testing.T, kind int, b []byte, n int) api.Errno {
	t.Helper()
	want, wrong := read(kind, b, n)
	if got, e := plain.Decode(kind, b, n); e != wrong || !slices.Equal(got, want) {
		t.Errorf("Decode(%d, %x, %d): %v, %v, want %v, %v", kind, b, n, got, e, want, wrong)
	}
	return wrong
}

func TestP1101ByHand(t *testing.T) {
	for _, x := range printed {
		wantBytes(t, x.kind, x.l, x.b)
		wantValues(t, x.kind, x.b, x.l)
	}
}

func TestP1101EncodeEveryFewBools(t *testing.T) {
	for n := range 13 {
		for x := range 1 << n {
			l := make([]api.Value, n)
			for i := range l {
				l[i].N = x >> i & 1
			}
			wantBytes(t, api.Bool, l, string([]byte{byte(x), byte(x >> 8)}[:(n+7)/8]))
		}
	}
}

func TestP1101EncodeBytesOfEveryLength(t *testing.T) {
	for n := range api.MaxValue + 1 {
		head := string([]byte{byte(n), 0, 0, 0})
		wantBytes(t, api.Bytes, ss(y(n)), head+y(n))
		wantBytes(t, api.Bytes, ss("x", y(n), "z"), "\x01\x00\x00\x00x"+head+y(n)+"\x01\x00\x00\x00z")
		wantValues(t, api.Bytes, head+y(n), ss(y(n)))
		wantValues(t, api.Bytes, "\x01\x00\x00\x00x"+head+y(n)+"\x01\x00\x00\x00z", ss("x", y(n), "z"))
	}
}

func TestP1101EveryBitOfANumber(t *testing.T) {
	for kind, size := range map[int]int{api.Int32: 32, api.Int64: 64} {
		for at := range size {
			b := make([]byte, size/8)
			b[at/8] = 1 << (at % 8)
			n := 1 << at
			if at == size-1 {
				n = -1 << at // the sign
			}
			wantBytes(t, kind, ns(n), string(b))
			wantValues(t, kind, string(b), ns(n))
			for i := range b {
				b[i] = ^b[i]
			}
			wantBytes(t, kind, ns(^n), string(b))
			wantValues(t, kind, string(b), ns(^n))
		}
	}
}

func TestP1101EncodeByItsWords(t *testing.T) {
	m := seed
	for i := range 8000 {
		kind := kinds[i%4]
		l := m.values(kind, m.below(60))
		wantBytes(t, kind, l, string(written(kind, l)))
	}
}

func TestP1101EncodeMoreThanIsDecoded(t *testing.T) {
	// Nothing bounds how many values are written; as many as these take long, if each one costs as much as all ahead of it.
	m := seed
	for _, kind := range kinds {
		for _, n := range []int{3999, 4000, 4001, 1 << 19} {
			l := m.values(kind, n)
			if got, want := plain.Encode(kind, l), written(kind, l); !slices.Equal(got, want) {
				t.Errorf("Encode of %d values of kind %d: %d bytes, want %d", n, kind, len(got), len(want))
			}
		}
	}
}

func TestP1101ErrArgKind(t *testing.T) {
	for _, kind := range append(strange, api.Group, 5, 6, 8, 256, 257, 260) {
		for _, b := range []string{"", "\x00", "\x01", "\x00\x00\x00\x00", "\x65\x00\x00\x00", "\xff\xff\xff\xff\xff\xff\xff\xff"} {
			for _, n := range []int{-1, 0, 1, 2, 4000, 4001} {
				wantError(t, kind, b, n, api.ErrArg)
			}
		}
	}
}

func TestP1101ErrArgHowMany(t *testing.T) {
	// It is found ahead of whatever is wrong with the bytes.
	for _, kind := range kinds {
		for _, n := range strange {
			for _, b := range []string{"", "\x02", "\x00\x00\x00\x00", "\x65\x00\x00\x00", strings.Repeat("\x00", 501), strings.Repeat("\x00", 8*4001)} {
				wantError(t, kind, b, n, api.ErrArg)
			}
		}
	}
}

func TestP1101AsManyAsMayBe(t *testing.T) {
	for _, n := range []int{0, 1, 3999, 4000} {
		zeros := times(n, api.Value{})
		wantValues(t, api.Bool, strings.Repeat("\x00", (n+7)/8), zeros)
		wantValues(t, api.Int32, strings.Repeat("\x00", 4*n), zeros)
		wantValues(t, api.Int64, strings.Repeat("\x00", 8*n), zeros)
		wantValues(t, api.Bytes, strings.Repeat("\x00", 4*n), zeros)
		wantValues(t, api.Bytes, strings.Repeat("\x64\x00\x00\x00"+y(100), n), times(n, api.Value{S: y(100)}))
	}
}

func TestP1101NoValues(t *testing.T) {
	for _, kind := range kinds {
		wantValues(t, kind, "", nil)
		for _, b := range []string{"\x00", "\x01", "\xff", "\x00\x00\x00\x00", "\x65\x00\x00\x00", "\x00\x00\x00\x00\x00\x00\x00\x00"} {
			wantError(t, kind, b, 0, api.ErrMore)
		}
	}
}

func TestP1101BoolsOfAnotherLength(t *testing.T) {
	for n := range 70 {
		size := (n + 7) / 8
		for k := range size + 3 {
			// A bit behind the values is looked at only where the length is right.
			for _, fill := range []string{"\x00", "\xff"} {
				b := strings.Repeat(fill, k)
				switch {
				case k < size:
					wantError(t, api.Bool, b, n, api.ErrCut)
				case k > size:
					wantError(t, api.Bool, b, n, api.ErrMore)
				case fill == "\x00" || n%8 == 0:
					wantValues(t, api.Bool, b, times(n, api.Value{N: int(fill[0] & 1)}))
				default:
					wantError(t, api.Bool, b, n, api.ErrBad)
				}
			}
		}
	}
}

func TestP1101BitsBehindTheBools(t *testing.T) {
	for n := 1; n <= 40; n++ {
		for at := range (n + 7) / 8 * 8 {
			b := make([]byte, (n+7)/8)
			b[at/8] = 1 << (at % 8)
			if at >= n {
				wantError(t, api.Bool, string(b), n, api.ErrBad)
				continue
			}
			l := times(n, api.Value{})
			l[at].N = 1
			wantValues(t, api.Bool, string(b), l)
		}
	}
}

func TestP1101BytesThatEndEarly(t *testing.T) {
	check := func(kind int, b string, n int) {
		t.Helper()
		for i := range len(b) {
			wantError(t, kind, b[:i], n, api.ErrCut)
		}
	}
	for _, x := range printed {
		check(x.kind, x.b, len(x.l))
	}
	m := seed
	for i := range 400 {
		kind := kinds[i%4]
		l := m.values(kind, m.below(20))
		check(kind, string(plain.Encode(kind, l)), len(l))
	}
	for _, kind := range kinds {
		for _, n := range []int{1, 2, 4000} {
			wantError(t, kind, "", n, api.ErrCut)
		}
	}
}

func TestP1101BytesBehind(t *testing.T) {
	for _, x := range printed {
		for _, more := range []string{"\x00", "\x01", "\xff", "\x00\x00\x00\x00", "\x65\x00\x00\x00", strings.Repeat("\xff", 8), strings.Repeat("\x00", 5000)} {
			wantError(t, x.kind, x.b+more, len(x.l), api.ErrMore)
		}
	}
}

func TestP1101LongTexts(t *testing.T) {
	for _, length := range []uint32{101, 102, 127, 128, 255, 256, 356, 1 << 16, 1<<16 + 1, 1 << 24, 1<<24 + 100, 1<<31 - 1, 1 << 31, 1<<31 + 100, 1<<32 - 100, 1<<32 - 1} {
		head := string(binary.LittleEndian.AppendUint32(nil, length))
		for _, behind := range []int{0, 1, 99, 100, 101, 102, 127, 356, 1000} {
			// It is found as soon as it has been read, whatever lies behind it.
			for _, ahead := range []string{"", "\x00\x00\x00\x00", "\x01\x00\x00\x00a\x64\x00\x00\x00" + y(100)} {
				for n := strings.Count(ahead, "\x00\x00\x00") + 1; n <= 4; n++ {
					wantError(t, api.Bytes, ahead+head+y(behind), n, api.ErrLong)
				}
			}
		}
	}
	wantError(t, api.Bytes, "\x64\x00\x00\x00"+y(99), 1, api.ErrCut)
	wantError(t, api.Bytes, "\x64\x00\x00\x00"+y(101), 1, api.ErrMore)
}

func TestP1101FoundFirst(t *testing.T) {
	for _, x := range []struct {
		b    string
		n    int
		want api.Errno
	}{
		{"\x65", 1, api.ErrCut},
		{"\x65\x00\x00", 1, api.ErrCut},
		{"\xff\xff\xff", 1, api.ErrCut},
		{"\x65\x00\x00\x00", 1, api.ErrLong},
		{"\x65\x00\x00\x00", 4001, api.ErrArg},
		{"\x65\x00\x00\x00", 0, api.ErrMore},
		{"\x05\x00\x00\x00\x65\x00\x00\x00", 1, api.ErrCut},
		{"\x05\x00\x00\x00\x65\x00\x00\x00", 2, api.ErrCut},
		{"\x04\x00\x00\x00\x65\x00\x00\x00", 1, api.OK},
		{"\x04\x00\x00\x00\x65\x00\x00\x00", 2, api.ErrCut},
		{"\x03\x00\x00\x00\x65\x00\x00\x00", 1, api.ErrMore},
		{"\x00\x00\x00\x00\x65\x00\x00\x00", 1, api.ErrMore},
		{"\x00\x00\x00\x00\x65\x00\x00\x00", 2, api.ErrLong},
		{"\x00\x00\x00\x00\x65\x00\x00\x00", 4000, api.ErrLong},
		{"\x01\x00\x00\x00a\x65\x00\x00", 2, api.ErrCut},
		{"\x01\x00\x00\x00a\x02\x00\x00\x00b", 2, api.ErrCut},
		{"\x01\x00\x00\x00a\x02\x00\x00\x00bcd", 2, api.ErrMore},
		{"\x66\x00\x00\x00\x65\x00\x00\x00", 2, api.ErrLong},
	} {
		if l, e := plain.Decode(api.Bytes, []byte(x.b), x.n); e != x.want || e != api.OK && len(l) != 0 {
			t.Errorf("Decode(%x, %d): %v, %v, want %v", x.b, x.n, l, e, x.want)
		}
	}
}

func TestP1101DecodeEveryTwoBytes(t *testing.T) {
	for x := range 1 << 16 {
		two := []byte{byte(x), byte(x >> 8)}
		for n := range 18 {
			wantAsRead(t, api.Bool, two, n)
		}
		for _, kind := range kinds {
			wantAsRead(t, kind, append(two, 0, 0), 1)
			wantAsRead(t, kind, append([]byte{0, 0}, two...), 1)
			wantAsRead(t, kind, append([]byte{0, 0, 0, 0}, two...), 2)
		}
	}
}

func TestP1101DecodeByItsWords(t *testing.T) {
	m := seed
	seen := map[api.Errno]int{}
	for i := range 80000 {
		kind := kinds[i%4]
		l := m.values(kind, m.below(12))
		b := plain.Encode(kind, l)
		for range m.below(3) {
			b = m.spoil(b)
		}
		seen[wantAsRead(t, kind, b, max(0, len(l)+m.below(3)-1))]++
	}
	for i := range 80000 {
		b := make([]byte, m.below(30))
		for k := range b {
			b[k] = byte(m.below([]int{1, 1, 3, 256}[m.below(4)]))
		}
		seen[wantAsRead(t, kinds[i%4], b, m.below(10))]++
	}
	for _, e := range []api.Errno{api.OK, api.ErrCut, api.ErrBad, api.ErrLong, api.ErrMore} {
		if seen[e] < 500 {
			t.Errorf("%v was seen %d times", e, seen[e])
		}
	}
}

func TestP1102WhatWasEncoded(t *testing.T) {
	m := seed
	for i := range 8000 {
		kind := kinds[i%4]
		l := m.values(kind, m.below(60))
		wantValues(t, kind, string(plain.Encode(kind, l)), l)
	}
	for _, kind := range kinds {
		for n := 3990; n <= 4000; n++ {
			l := m.values(kind, n)
			wantValues(t, kind, string(plain.Encode(kind, l)), l)
		}
	}
}

func TestP1102EncodeOfWhatWasDecoded(t *testing.T) {
	// Values have one form only.
	m := seed
	for i := range 40000 {
		kind := kinds[i%4]
		n := m.below(6)
		b := m.spoil(plain.Encode(kind, m.values(kind, n)))
		if l, e := plain.Decode(kind, b, n); e == api.OK {
			wantBytes(t, kind, l, string(b))
		}
	}
}

func TestP1AnyArguments(t *testing.T) {
	odd := []api.Value{{}, {N: 2}, {N: -1}, {N: math.MinInt}, {N: math.MaxInt}, {N: 1 << 31}, {N: 1 << 32}, {S: y(101)}, {S: y(1 << 20)}, {N: 7, S: "x"}}
	for _, kind := range append(strange, 0, 1, 2, 3, 4, 5, 6) {
		for _, l := range [][]api.Value{nil, {}, odd, times(1000, odd[3])} {
			plain.Encode(kind, l)
		}
		for _, n := range append(strange, 0, 1, 2, 4000) {
			for _, b := range []string{"", "\x00", "\x01\x00\x00\x00", strings.Repeat("\xff", 1000), strings.Repeat("\x00", 1000)} {
				plain.Decode(kind, []byte(b), n)
			}
		}
	}
	// Of no kind are no values: what is none is not written as another's.
	for _, kind := range append(strange, api.Group, 5) {
		wantBytes(t, kind, odd, "")
	}
}

func TestP1LongBytes(t *testing.T) {
	// As many values as may be, and many bytes behind them: they take long, if each value costs as much as all behind it.
	behind := strings.Repeat("\x00", 1<<24)
	for _, kind := range kinds {
		wantError(t, kind, behind, 4000, api.ErrMore)
	}
	wantError(t, api.Bytes, "\x65\x00\x00\x00"+behind, 4000, api.ErrLong)
}

func TestP2ArgumentsAreLeft(t *testing.T) {
	more := []api.Value{{N: 7, S: "more"}, {N: -1}}
	for _, x := range printed {
		l := slices.Concat(x.l, more)
		plain.Encode(x.kind, l[:len(x.l)])
		plain.Encode(api.Group, l[:len(x.l)])
		if !slices.Equal(l, slices.Concat(x.l, more)) {
			t.Errorf("Encode(%d, %v) writes into its argument: %v", x.kind, x.l, l)
		}
		b := append([]byte(x.b), "and what lies behind"...)
		for n := range len(b) {
			for _, kind := range kinds {
				plain.Decode(kind, b[:n], len(x.l))
			}
		}
		if string(b) != x.b+"and what lies behind" {
			t.Errorf("Decode(%d, %x, %d) writes into its argument: %x", x.kind, x.b, len(x.l), b)
		}
	}
}

func TestP2ResultsAreNew(t *testing.T) {
	for _, x := range printed {
		l := slices.Clone(x.l)
		b, other := plain.Encode(x.kind, l), plain.Encode(x.kind, l)
		clear(l)
		clear(other[:cap(other)])
		if string(b) != x.b {
			t.Errorf("what Encode(%d, %v) answers changes with its argument, or with another answer", x.kind, x.l)
		}
		from := []byte(x.b)
		got, _ := plain.Decode(x.kind, from, len(x.l))
		again, _ := plain.Decode(x.kind, from, len(x.l))
		clear(from)
		clear(again[:cap(again)])
		if !slices.Equal(got, x.l) {
			t.Errorf("what Decode(%d, %x) answers changes with its argument, or with another answer", x.kind, x.b)
		}
	}
}

func TestP3TheSameCalls(t *testing.T) {
	for range 3 {
		for _, x := range printed {
			wantBytes(t, x.kind, x.l, x.b)
			wantValues(t, x.kind, x.b, x.l)
			wantError(t, x.kind, x.b+"\x00", len(x.l), api.ErrMore)
			wantError(t, api.Group, x.b, len(x.l), api.ErrArg)
		}
	}
}

func TestP4NothingBesideAnError(t *testing.T) {
	// Values were read ahead of the error.
	for _, x := range []struct {
		kind int
		b    string
	}{{api.Bool, "\x07"}, {api.Bool, "\x03\x00"}, {api.Int32, "\x01\x00\x00\x00\x02"}, {api.Int32, "\x01\x00\x00\x00\x02\x00\x00\x00\x03"}, {api.Int64, "\x01\x00\x00\x00\x00\x00\x00\x00\x02"}, {api.Int64, strings.Repeat("\x01", 17)}, {api.Bytes, "\x01\x00\x00\x00a"}, {api.Bytes, "\x01\x00\x00\x00a\x02\x00\x00\x00b"}, {api.Bytes, "\x01\x00\x00\x00a\x65\x00\x00\x00"}, {api.Bytes, "\x01\x00\x00\x00a\x01\x00\x00\x00bc"}} {
		if l, e := plain.Decode(x.kind, []byte(x.b), 2); e == api.OK || len(l) != 0 {
			t.Errorf("Decode(%d, %x): %v, %v", x.kind, x.b, l, e)
		}
	}
}
