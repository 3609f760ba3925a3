package dict_test

import (
	"math"
	"slices"
	"strconv"
	"strings"
	"testing"

	"shredder/api"
	"shredder/dict"
	"shredder/level"
)

// kinds are those of leaves; strange are numbers that are none, nor how many words a dictionary has at most.
var (
	kinds   = []int{api.Bool, api.Int32, api.Int64, api.Bytes}
	strange = []int{math.MinInt, math.MinInt + 1, -1 << 32, 1 - 1<<32, -256, -2, -1, 257, 258, 512, 1 << 16, 1 << 32, 1<<32 + 1, 1<<32 + 256, 1 << 62, math.MaxInt}
)

// ns, ss are values of numbers, of texts.
func ns(l ...int) (values []api.Value) {
	for _, n := range l {
		values = append(values, api.Value{N: n})
	}
	return values
}

func ss(l ...string) (values []api.Value) {
	for _, s := range l {
		values = append(values, api.Value{S: s})
	}
	return values
}

// of are indices; turns are n of them, in turn from 0 on below k; y is a text of n bytes.
func of(l ...int) []int { return l }

func turns(n, k int) (l []int) {
	for i := range n {
		l = append(l, i%k)
	}
	return l
}

func y(n int) string { return strings.Repeat("y", n) }

// some are n words of a kind, but of Bools, of which there are only two.
func some(kind, n int) (l []api.Value) {
	for i := range n {
		if kind == api.Bytes {
			l = append(l, api.Value{S: y(i%90) + strconv.Itoa(i)})
		} else {
			l = append(l, api.Value{N: (i - n/2) * 7654321})
		}
	}
	return l
}

// picked are the words that indices tell.
func picked(words []api.Value, at []int) (l []api.Value) {
	for _, i := range at {
		l = append(l, words[i])
	}
	return l
}

// built are values and their dictionaries, worked out by hand.
var built = []struct {
	kind  int
	l     []api.Value
	words []api.Value
	at    []int
}{
	{api.Bool, nil, nil, nil},
	{api.Bool, ns(0), ns(0), of(0)},
	{api.Bool, ns(1), ns(1), of(0)},
	{api.Bool, ns(1, 0, 1), ns(1, 0), of(0, 1, 0)},
	{api.Bool, ns(0, 0, 1), ns(0, 1), of(0, 0, 1)},
	{api.Int32, nil, nil, nil},
	{api.Int32, ns(5, 5, 5), ns(5), of(0, 0, 0)},
	{api.Int32, ns(5, -5, 5), ns(5, -5), of(0, 1, 0)},
	{api.Int32, ns(3, 2, 1, 2, 3, 0), ns(3, 2, 1, 0), of(0, 1, 2, 1, 0, 3)}, // as they come, not by how great they are
	{api.Int32, ns(math.MaxInt32, math.MinInt32, -1, 0, math.MinInt32), ns(math.MaxInt32, math.MinInt32, -1, 0), of(0, 1, 2, 3, 1)},
	{api.Int64, nil, nil, nil},
	{api.Int64, ns(0, 1<<32, 1<<31, -1<<31, 1<<32), ns(0, 1<<32, 1<<31, -1<<31), of(0, 1, 2, 3, 1)}, // their lower bits are equal
	{api.Int64, ns(math.MaxInt, math.MaxInt-1, math.MinInt, math.MinInt+1, math.MaxInt), ns(math.MaxInt, math.MaxInt-1, math.MinInt, math.MinInt+1), of(0, 1, 2, 3, 0)},
	{api.Bytes, nil, nil, nil},
	{api.Bytes, ss(""), ss(""), of(0)},
	{api.Bytes, ss("a", "b", "a"), ss("a", "b"), of(0, 1, 0)},
	{api.Bytes, ss("b", "", "a", "", "b"), ss("b", "", "a"), of(0, 1, 2, 1, 0)},
	{api.Bytes, ss("a", "A", "a ", " a", "ab", "ba", "aa"), ss("a", "A", "a ", " a", "ab", "ba", "aa"), turns(7, 7)},
	{api.Bytes, ss("", "\x00", "\x00\x00", "a\x00", "\x00"), ss("", "\x00", "\x00\x00", "a\x00"), of(0, 1, 2, 3, 1)},
	{api.Bytes, ss("\xff", "\xfe", "\ufffd", "\xc3(", "\xed\xa0\x80", "\xff"), ss("\xff", "\xfe", "\ufffd", "\xc3(", "\xed\xa0\x80"), of(0, 1, 2, 3, 4, 0)}, // bytes that are no characters
	{api.Bytes, ss("\u00e9", "e\u0301", "e", "\u00e9"), ss("\u00e9", "e\u0301", "e"), of(0, 1, 2, 0)},                                                       // alike only to the eye
	{api.Bytes, ss(y(100), y(99), y(99)+"z", "z"+y(99), y(100)), ss(y(100), y(99), y(99)+"z", "z"+y(99)), of(0, 1, 2, 3, 0)},
}

// printed are indices and what they are as bytes, worked out by hand.
var printed = []struct {
	at    []int
	words int
	b     string
}{
	{nil, 0, ""},
	{nil, 1, ""},
	{nil, 256, ""},
	{of(0), 1, ""}, // of one word nothing needs to be told
	{make([]int, 4000), 1, ""},
	{of(0), 2, "\x02\x00"},
	{of(1), 2, "\x02\x01"},
	{of(0, 1, 0), 2, "\x03\x02"},
	{make([]int, 10), 2, "\x14\x00"},
	{of(0, 1, 0, 2, 1), 3, "\x03\x84\x01"}, // of two bits
	{of(0, 1, 0, 1, 1), 3, "\x03\x44\x01"}, // of two bits: the words tell how many, not the indices
	{of(3, 2, 1, 0), 4, "\x03\x1b\x00"},
	{of(4, 0), 5, "\x03\x04\x00\x00"}, // of three bits
	{turns(8, 8), 8, "\x03\x88\xc6\xfa"},
	{of(8), 9, "\x02\x08"},
	{of(15, 0), 16, "\x03\x0f\x00\x00\x00"},
	{of(16, 0), 17, "\x03\x10\x00\x00\x00\x00"},
	{of(127, 0), 128, "\x03\x7f\x00\x00\x00\x00\x00\x00"},
	{of(128, 0), 129, "\x03\x80\x00\x00\x00\x00\x00\x00\x00"},
	{of(255), 256, "\x02\xff"},
	{of(255, 0, 254), 256, "\x03\xff\x00\xfe\x00\x00\x00\x00\x00"},
}

// build is Build by its words.
func build(l []api.Value, most int) (words []api.Value, at []int, fits bool) {
	for _, v := range l {
		if !slices.Contains(words, v) {
			words = append(words, v)
		}
		at = append(at, slices.Index(words, v))
	}
	if len(words) > most || most < 0 || most > 256 {
		return nil, nil, false
	}
	return words, at, true
}

// width is how many bits the index of the last one of so many words has.
func width(words int) (n int) {
	for words > 0 && (words-1)>>n > 0 {
		n++
	}
	return n
}

// read is Decode by its words.
func read(b []byte, n int, words []api.Value) ([]api.Value, api.Errno) {
	if len(words) > 256 {
		return nil, api.ErrMany
	}
	at, e := level.Decode(b, n, width(len(words)))
	if e != api.OK {
		return nil, e
	}
	if slices.ContainsFunc(at, func(i int) bool { return i >= len(words) }) {
		return nil, api.ErrBad
	}
	return picked(words, at), api.OK
}

// mix tells numbers in whose bits there is no order to be seen.
type mix uint64

const seed = mix(88172645463325252)

func (m *mix) below(n int) int {
	*m ^= *m << 13
	*m ^= *m >> 7
	*m ^= *m << 17
	return int(uint64(*m) >> 1 % uint64(n))
}

// values are n values of a kind, of some words; behind many of them stand others that are equal.
func (m *mix) values(kind, n, words int) []api.Value {
	from := some(kind, words)
	if kind == api.Bool {
		from = ns(0, 1)
	}
	l := make([]api.Value, n)
	for i := range l {
		if i > 0 && m.below(4) == 0 {
			l[i] = l[i-1]
		} else {
			l[i] = from[m.below(len(from))]
		}
	}
	return l
}

// spoil changes bytes a little.
func (m *mix) spoil(b []byte) []byte {
	at := m.below(len(b) + 1)
	b = slices.Clone(b)
	switch {
	case m.below(4) == 0:
		return b[:at]
	case m.below(3) == 0:
		return slices.Insert(b, at, byte(m.below(256)))
	case m.below(2) == 0:
		return slices.Delete(b, at, min(at+1, len(b)))
	case at < len(b):
		b[at] ^= 1 << m.below(8)
	}
	return b
}

// wantBuilt, wantNone ask for what Build answers.
func wantBuilt(t *testing.T, kind int, l []api.Value, most int, words []api.Value, at []int) {
	t.Helper()
	if gotWords, gotAt, fits := dict.Build(kind, l, most); !fits || !slices.Equal(gotWords, words) || !slices.Equal(gotAt, at) {
		t.Errorf("Build(%d, %v, %d): %v, %v, %v, want %v, %v", kind, l, most, gotWords, gotAt, fits, words, at)
	}
}

func wantNone(t *testing.T, kind int, l []api.Value, most int) {
	t.Helper()
	if words, at, fits := dict.Build(kind, l, most); fits || len(words) > 0 || len(at) > 0 {
		t.Errorf("Build(%d, %v, %d): %v, %v, %v, want none", kind, l, most, words, at, fits)
	}
}

// wantBytes, wantValues, wantError, wantAsRead ask for what Encode and Decode answer.
func wantBytes(t *testing.T, at []int, words int, want string) {
	t.Helper()
	if got := dict.Encode(at, words); string(got) != want {
		t.Errorf("Encode(%v, %d): %x, want %x", at, words, got, want)
	}
}

func wantValues(t *testing.T, b string, words, want []api.Value) {
	t.Helper()
	if got, e := dict.Decode([]byte(b), len(want), words); e != api.OK || !slices.Equal(got, want) {
		t.Errorf("Decode(%x, %d, %v): %v, %v, want %v", b, len(want), words, got, e, want)
	}
}

func wantError(t *testing.T, b string, n, words int, want api.Errno) {
	t.Helper()
	if got, e := dict.Decode([]byte(b), n, some(api.Int64, words)); e != want || len(got) != 0 {
		t.Errorf("Decode(%x, %d, of %d words): %v, %v, want %v", b, n, words, got, e, want)
	}
}

func wantAsRead(t *testing.T, b []byte, n int, words []api.Value) api.Errno {
	t.Helper()
	want, wrong := read(b, n, words)
	if got, e := dict.Decode(b, n, words); e != wrong || !slices.Equal(got, want) {
		t.Errorf("Decode(%x, %d, of %d words): %v, %v, want %v, %v", b, n, len(words), got, e, want, wrong)
	}
	return wrong
}

func TestP1301BuildByHand(t *testing.T) {
	for _, x := range built {
		for _, most := range []int{len(x.words), len(x.words) + 1, 255, 256} {
			wantBuilt(t, x.kind, x.l, most, x.words, x.at)
		}
		if len(x.words) > 0 {
			wantNone(t, x.kind, x.l, len(x.words)-1)
			wantNone(t, x.kind, x.l, 0)
		}
	}
}

func TestP1301BuildMost(t *testing.T) {
	// As many words as may be, and one more; of each there is one value, or others behind all of them.
	for _, kind := range []int{api.Int32, api.Int64, api.Bytes} {
		for words := range 300 {
			l := some(kind, words)
			for _, l := range [][]api.Value{l, slices.Concat(l, l), slices.Repeat(l, 3)} {
				if words <= 256 {
					wantBuilt(t, kind, l, words, l[:words], turns(len(l), max(1, words)))
					wantBuilt(t, kind, l, 256, l[:words], turns(len(l), max(1, words)))
				} else {
					wantNone(t, kind, l, 256)
				}
				if words > 0 {
					wantNone(t, kind, l, min(words-1, 256))
				}
			}
		}
	}
}

func TestP1301BuildMostOutOfRange(t *testing.T) {
	for _, kind := range kinds {
		for _, most := range strange {
			for _, l := range [][]api.Value{nil, {}, {{}}, {{}, {}}} {
				wantNone(t, kind, l, most)
			}
		}
		for _, most := range of(0, 1, 255, 256) {
			wantBuilt(t, kind, nil, most, nil, nil)
		}
	}
}

func TestP1301BuildEveryFew(t *testing.T) {
	for _, few := range [][]api.Value{ns(0, 1, -1, 1<<32), ss("", "a", "b", "ab")} {
		for i := range 4 * 4 * 4 * 4 * 4 {
			l := []api.Value{few[i%4], few[i/4%4], few[i/16%4], few[i/64%4], few[i/256%4]}
			for most := -1; most < 6; most++ {
				kind := api.Int64
				if few[1].S != "" {
					kind = api.Bytes
				}
				if words, at, fits := build(l, most); fits {
					wantBuilt(t, kind, l, most, words, at)
				} else {
					wantNone(t, kind, l, most)
				}
			}
		}
	}
}

func TestP1301BuildByItsWords(t *testing.T) {
	m := seed
	seen := map[bool]int{}
	for i := range 8000 {
		kind := kinds[i%4]
		l := m.values(kind, m.below(400), 1+m.below(270))
		most := m.below(300) - 10
		words, at, fits := build(l, most)
		if fits {
			wantBuilt(t, kind, l, most, words, at)
		} else {
			wantNone(t, kind, l, most)
		}
		seen[fits]++
	}
	if seen[true] < 1000 || seen[false] < 1000 {
		t.Errorf("they fit %d times, they do not %d times", seen[true], seen[false])
	}
}

func TestP1301BuildOfMany(t *testing.T) {
	// Nothing bounds how many values there are; as many as these take long, if each one costs as much as all ahead of it.
	words := some(api.Int64, 256)
	wantBuilt(t, api.Int64, slices.Repeat(words, 1<<13), 256, words, turns(1<<21, 256))
	wantNone(t, api.Int64, append(slices.Repeat(words, 1<<13), api.Value{N: 1}), 256)
	wantNone(t, api.Int64, some(api.Int64, 1<<21), 256)
}

func TestP1301EncodeByHand(t *testing.T) {
	for _, x := range printed {
		wantBytes(t, x.at, x.words, x.b)
	}
}

func TestP1301EncodeOfEveryDictionary(t *testing.T) {
	m := seed
	for words := range 257 {
		wantBytes(t, nil, words, "")
		if words == 0 {
			continue
		}
		for _, at := range [][]int{of(0), of(words - 1), of(0, words-1), turns(300, words), slices.Repeat(of(words-1), 20)} {
			wantBytes(t, at, words, string(level.Encode(at, width(words))))
		}
		for range 20 {
			at := make([]int, m.below(100))
			for i := range at {
				at[i] = m.below(words)
			}
			wantBytes(t, at, words, string(level.Encode(at, width(words))))
		}
	}
}

func TestP1301DecodeByHand(t *testing.T) {
	for _, x := range printed {
		for _, kind := range kinds[1:] {
			words := some(kind, x.words)
			wantValues(t, x.b, words, picked(words, x.at))
		}
	}
	wantValues(t, "\x03\x05", ns(0, 1), ns(1, 0, 1, 0))
	wantValues(t, "\x03\x05", ns(1, 0), ns(0, 1, 0, 1))
	wantValues(t, "\x04\x00\x06\x01", ss("a", ""), ss("a", "a", "", "", ""))
}

func TestP1301DecodeErrMany(t *testing.T) {
	// It is found ahead of all that level.Decode finds.
	for _, words := range []int{257, 258, 511, 512, 513, 65536, 65537} {
		for _, b := range []string{"", "\x00", "\x06\x00", "\x06\x00\x00", "\x80\x00", "\xff"} {
			for _, n := range []int{math.MinInt, -1, 0, 1, 3, 4000, 4001, math.MaxInt} {
				wantError(t, b, n, words, api.ErrMany)
			}
		}
	}
	wantError(t, "\x06\xff\x00", 3, 256, api.ErrMore)
	wantValues(t, "\x06\xff", some(api.Int64, 256), slices.Repeat(some(api.Int64, 256)[255:], 3))
}

func TestP1301DecodeErrArg(t *testing.T) {
	for _, n := range []int{math.MinInt, -1 << 32, -4000, -1, 4001, 4008, 1 << 32, 1<<32 + 1, math.MaxInt} {
		for _, words := range []int{0, 1, 2, 3, 255, 256} {
			for _, b := range []string{"", "\x00", "\x06\x00", "\x06\x03", "\x80\x00"} {
				wantError(t, b, n, words, api.ErrArg)
			}
		}
	}
}

func TestP1301DecodeErrorsOfLevel(t *testing.T) {
	// Of a dictionary of 2, 3, 4, 256 words.
	for b, want := range map[string]api.Errno{
		"":                     api.ErrCut,
		"\x06":                 api.ErrCut,
		"\x03":                 api.ErrCut,
		"\x80":                 api.ErrCut,
		"\x04\x00\x02":         api.ErrCut,
		"\x86\x00\x00":         api.ErrBad,
		"\x00\x00":             api.ErrBad,
		"\x08\x00":             api.ErrBad,
		"\x04\x00\x04\x00":     api.ErrBad,
		"\x01\x00":             api.ErrBad,
		"\x05" + y(16):         api.ErrBad,
		"\x06\x00\x00":         api.ErrMore,
		"\x06\x01\x02\x01":     api.ErrMore,
		"\x02\x00\x04\x01\x80": api.ErrMore,
		"\xff\xff\xff\xff\xff\xff\xff\xff\xff\x02": api.ErrOver,
	} {
		for _, words := range []int{2, 3, 4, 256} {
			wantError(t, b, 3, words, want)
		}
	}
	for _, x := range printed {
		for n := range len(x.b) {
			wantError(t, x.b[:n], len(x.at), x.words, api.ErrCut)
		}
		for _, more := range []string{"\x00", "\x02\x00", "\xff", "\x80\x00"} {
			wantError(t, x.b+more, len(x.at), x.words, api.ErrMore)
		}
	}
}

func TestP1301DecodeOfEveryWidth(t *testing.T) {
	// What is found first tells the width: a value that has too many bits is found ahead of bytes that are wrong behind it, an index of no word is not.
	for words := 1; words <= 256; words++ {
		l := some(api.Int64, words)
		for v := range 256 {
			b := string([]byte{2, byte(v)})
			switch {
			case words == 1:
				wantError(t, b, 1, words, api.ErrMore)
			case v < words:
				wantValues(t, b, l, l[v:v+1])
			default:
				wantError(t, b, 1, words, api.ErrBad)
				if v < 1<<width(words) {
					wantError(t, b+"\x00", 1, words, api.ErrMore)
					wantError(t, b, 2, words, api.ErrCut)
				} else {
					wantError(t, b+"\x00", 1, words, api.ErrBad)
					wantError(t, b, 2, words, api.ErrBad)
				}
			}
		}
	}
}

func TestP1301DecodeIndexOfNoWord(t *testing.T) {
	for _, words := range []int{3, 5, 6, 7, 9, 100, 129, 255} {
		l := some(api.Bytes, words)
		for _, i := range []int{words, 1<<width(words) - 1} {
			for n := 1; n <= 20; n++ {
				for place := range n { // wherever it is, with words ahead of it and behind it
					at := turns(n, words)
					wantValues(t, string(level.Encode(at, width(words))), l, picked(l, at))
					at[place] = i
					wantError(t, string(level.Encode(at, width(words))), n, words, api.ErrBad)
				}
			}
		}
	}
}

func TestP1301DecodeNoWords(t *testing.T) {
	wantValues(t, "", nil, nil)
	for _, n := range []int{1, 2, 8, 4000} {
		wantError(t, "", n, 0, api.ErrBad)
		wantError(t, "\x00", n, 0, api.ErrMore)
		wantError(t, "\x02\x00", n, 0, api.ErrMore)
	}
	wantError(t, "\x00", 0, 0, api.ErrMore)
}

func TestP1301DecodeOneWord(t *testing.T) {
	for _, word := range append(ns(0, 1, -7), ss("a", y(100))...) {
		for _, n := range []int{0, 1, 7, 8, 4000} {
			wantValues(t, "", []api.Value{word}, slices.Repeat([]api.Value{word}, n))
			wantError(t, "\x00", n, 1, api.ErrMore)
			wantError(t, "\x02\x00", n, 1, api.ErrMore)
		}
	}
}

func TestP1301DecodeNoValues(t *testing.T) {
	for _, words := range []int{1, 2, 3, 255, 256} {
		wantValues(t, "", some(api.Int32, words), nil)
		wantError(t, "\x00", 0, words, api.ErrMore)
		wantError(t, "\x02\x00", 0, words, api.ErrMore)
	}
}

func TestP1301DecodeEveryTwoBytes(t *testing.T) {
	for _, words := range []int{0, 1, 2, 3, 4, 5, 129, 255, 256} {
		l := some(api.Int64, words)
		for _, n := range []int{0, 1, 3, 8, 9} {
			for x := range 1 << 16 {
				wantAsRead(t, []byte{byte(x), byte(x >> 8)}, n, l)
			}
		}
	}
}

func TestP1301DecodeByItsWords(t *testing.T) {
	m := seed
	seen := map[api.Errno]int{}
	for i := range 60000 {
		l := m.values(kinds[i%4], m.below(40), 1+m.below([]int{6, 20, 270}[i%3]))
		words, at, _ := build(l, 256)
		b := dict.Encode(at, len(words))
		for range m.below(3) {
			b = m.spoil(b)
		}
		if m.below(4) == 0 { // too few words for these bytes, or too many
			words = some(kinds[1+i%3], min(258, max(0, len(words)+m.below(4)-2)))
		}
		seen[wantAsRead(t, b, max(0, len(l)+(m.below(9)-4)/4), words)]++
	}
	for _, words := range []int{255, 256, 257, 258} {
		for range 2000 {
			b := make([]byte, m.below(12))
			for i := range b {
				b[i] = byte(m.below([]int{2, 8, 256}[m.below(3)]))
			}
			seen[wantAsRead(t, b, m.below(9), some(api.Bytes, words))]++
		}
	}
	for _, e := range []api.Errno{api.OK, api.ErrMany, api.ErrCut, api.ErrBad, api.ErrMore} {
		if seen[e] < 1000 {
			t.Errorf("%v was seen %d times", e, seen[e])
		}
	}
}

func TestP1302WhatItWasBuiltFrom(t *testing.T) {
	back := func(kind int, l []api.Value) {
		t.Helper()
		words, at, fits := dict.Build(kind, l, 256)
		if !fits {
			t.Errorf("Build(%d, %v, 256): no dictionary", kind, l)
			return
		}
		wantValues(t, string(dict.Encode(at, len(words))), words, l)
	}
	for _, x := range built {
		back(x.kind, x.l)
	}
	m := seed
	for i := range 8000 {
		back(kinds[i%4], m.values(kinds[i%4], m.below(150), 1+m.below(256)))
	}
	for _, kind := range kinds {
		for _, n := range []int{3999, 4000} {
			for _, words := range []int{1, 2, 3, 100, 255, 256} {
				back(kind, m.values(kind, n, words))
			}
		}
	}
	for words := range 257 {
		for _, kind := range kinds[1:] {
			back(kind, slices.Repeat(some(kind, words), 3))
		}
	}
}

func TestP1AnyArguments(t *testing.T) {
	odd := []api.Value{{}, {N: 2}, {N: -1}, {N: math.MinInt}, {N: math.MaxInt}, {N: 1 << 32}, {S: y(101)}, {S: y(1 << 20)}, {N: 7, S: "x"}, {N: 7}, {S: "x"}}
	for _, kind := range append(strange, 0, 1, 2, 3, 4, 5, 6) {
		for _, most := range append(strange, 0, 1, 2, 256) {
			for _, l := range [][]api.Value{nil, {}, odd, some(api.Int64, 300)} {
				dict.Build(kind, l, most)
			}
		}
	}
	for _, words := range append(strange, 0, 1, 2, 3, 255, 256, 65536, 65537) {
		for _, at := range [][]int{nil, {}, of(0), of(-1), of(1, 0), of(256), strange, turns(300, 256), slices.Repeat(of(-1), 10)} {
			dict.Encode(at, words)
		}
	}
	for _, n := range append(strange, 0, 1, 2, 4000) {
		for _, words := range [][]api.Value{nil, {}, odd, some(api.Int64, 256), some(api.Int64, 257)} {
			for _, b := range []string{"", "\x00", "\x02\x01", strings.Repeat("\xff", 1000), strings.Repeat("\x03", 1000)} {
				dict.Decode([]byte(b), n, words)
			}
		}
	}
}

func TestP1LongBytes(t *testing.T) {
	b := strings.Repeat("\x02\x01", 4000)
	wantValues(t, b, ns(5, 6), ns(slices.Repeat(of(6), 4000)...))
	wantError(t, b+strings.Repeat("\xff", 1<<24), 4000, 2, api.ErrMore)
	wantError(t, b, 4000, 1<<20, api.ErrMany)
}

func TestP2ArgumentsAreLeft(t *testing.T) {
	more := []api.Value{{N: 7, S: "more"}, {N: -1}}
	for _, x := range built {
		l := slices.Concat(x.l, more)
		for _, most := range []int{-1, 0, 1, len(x.words), 256, 257} {
			dict.Build(x.kind, l[:len(x.l)], most)
		}
		if !slices.Equal(l, slices.Concat(x.l, more)) {
			t.Errorf("Build(%d, %v) writes into its argument: %v", x.kind, x.l, l)
		}
		at := append(slices.Clone(x.at), 7, 8, 9)
		was := slices.Clone(at)
		b := dict.Encode(at[:len(x.at)], len(x.words))
		if !slices.Equal(at, was) {
			t.Errorf("Encode(%v, %d) writes into its argument: %v", x.at, len(x.words), at)
		}
		from := append(slices.Clone(b), "and what lies behind"...)
		words := slices.Concat(x.words, more)
		for n := range len(from) {
			dict.Decode(from[:n], len(x.l), words[:len(x.words)])
		}
		if string(from) != string(b)+"and what lies behind" || !slices.Equal(words, slices.Concat(x.words, more)) {
			t.Errorf("Decode(%x, %d, %v) writes into its argument: %x, %v", b, len(x.l), x.words, from, words)
		}
	}
}

func TestP2ResultsOfBuildAreNew(t *testing.T) {
	for _, x := range built {
		l := slices.Clone(x.l)
		words, at, _ := dict.Build(x.kind, l, 256)
		otherWords, otherAt, _ := dict.Build(x.kind, l, 256)
		clear(l)
		clear(otherWords[:cap(otherWords)])
		clear(otherAt[:cap(otherAt)])
		if !slices.Equal(words, x.words) || !slices.Equal(at, x.at) {
			t.Errorf("what Build(%d, %v) answers changes with its argument, or with another answer", x.kind, x.l)
		}
	}
	// Of values that are all different, the words are equal to them.
	l := some(api.Int64, 200)
	words, _, _ := dict.Build(api.Int64, l, 256)
	clear(words[:cap(words)])
	if !slices.Equal(l, some(api.Int64, 200)) {
		t.Error("the words share memory with the values")
	}
}

func TestP2ResultsAreNew(t *testing.T) {
	for _, x := range printed {
		at := slices.Clone(x.at)
		b, other := dict.Encode(at, x.words), dict.Encode(at, x.words)
		clear(at)
		clear(other[:cap(other)])
		if string(b) != x.b {
			t.Errorf("what Encode(%v, %d) answers changes with its argument, or with another answer", x.at, x.words)
		}
		words, from := some(api.Bytes, x.words), []byte(x.b)
		want, _ := read(from, len(x.at), words)
		got, _ := dict.Decode(from, len(x.at), words)
		again, _ := dict.Decode(from, len(x.at), words)
		clear(again[:cap(again)])
		if !slices.Equal(words, some(api.Bytes, x.words)) {
			t.Errorf("what Decode(%x, of %d words) answers shares memory with the words", x.b, x.words)
		}
		clear(from)
		clear(words)
		if !slices.Equal(got, want) {
			t.Errorf("what Decode(%x, of %d words) answers changes with its argument, or with another answer", x.b, x.words)
		}
	}
}

func TestP3TheSameCalls(t *testing.T) {
	for range 3 {
		for _, x := range built {
			wantBuilt(t, x.kind, x.l, 256, x.words, x.at)
			wantNone(t, x.kind, x.l, len(x.words)-1)
		}
		for _, x := range printed {
			wantBytes(t, x.at, x.words, x.b)
			wantError(t, x.b+"\x00", len(x.at), x.words, api.ErrMore)
			wantError(t, x.b, len(x.at), 257, api.ErrMany)
		}
		wantValues(t, "\x03\x05", ns(0, 1), ns(1, 0, 1, 0))
	}
}

func TestP4NothingBesideFalse(t *testing.T) {
	// Words were found ahead of the one that is too many.
	wantNone(t, api.Int32, ns(1, 2, 1, 3), 2)
	wantNone(t, api.Bytes, ss("a", "a", "b"), 1)
	wantNone(t, api.Int64, some(api.Int64, 257), 256)
}

func TestP4NothingBesideAnError(t *testing.T) {
	// Values were read ahead of the error.
	for _, b := range []string{"\x04\x01", "\x04\x01\x02", "\x04\x01\x02\x03", "\x04\x01\x02\x04", "\x04\x01\x02\x01\x00", "\x04\x01\x80\x00", "\x03\xc4\x00"} {
		if l, e := dict.Decode([]byte(b), 4, ns(5, 6, 7)); e == api.OK || len(l) != 0 {
			t.Errorf("Decode(%x): %v, %v", b, l, e)
		}
	}
}
