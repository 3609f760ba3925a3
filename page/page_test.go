package page_test

import (
	"hash/crc32"
	"math"
	"slices"
	"strconv"
	"strings"
	"testing"
	"unsafe"

	"shredder/api"
	"shredder/bits"
	"shredder/delta"
	"shredder/dict"
	"shredder/level"
	"shredder/page"
	"shredder/plain"
	"shredder/schema"
	"shredder/shred"
)

// kinds are those of leaves; encs are the encodings; strange are numbers that are neither, nor how many records or cells a page has.
var (
	kinds   = []int{api.Bool, api.Int32, api.Int64, api.Bytes}
	encs    = []int{api.Plain, api.Delta, api.Dict}
	strange = []int{math.MinInt, math.MinInt + 1, -1 << 32, 1 - 1<<32, -4000, -64, -3, -2, -1, 4001, 1 << 16, 1 << 32, 1<<32 + 1, 1<<32 + 2, 1<<32 + 64, 1 << 62, math.MaxInt - 1, math.MaxInt}
)

// ns, ss are values of numbers, of texts.
func ns(l ...int) (values []api.Value) {
	for _, n := range l {
		values = append(values, api.Value{N: n})
	}
	return values
}

func ss(l ...string) (values []api.Value) {
	for _, s := range l {
		values = append(values, api.Value{S: s})
	}
	return values
}

// y is a text of n bytes.
func y(n int) string { return strings.Repeat("y", n) }

// of is a column: digits are levels, R and D of a cell in turn, and v its values.
func of(levels string, v ...api.Value) (c api.Column) {
	for i, x := range []byte(strings.ReplaceAll(levels, " ", "")) {
		if i%2 == 0 {
			c.R = append(c.R, int(x-'0'))
		} else {
			c.D = append(c.D, int(x-'0'))
		}
	}
	c.V = v
	return c
}

// lf is a leaf.
func lf(r, d, kind int) api.Leaf { return api.Leaf{Field: 3, R: r, D: d, Kind: kind} }

// printed are cells and the parts that they are as bytes, worked out by hand.
var printed = []struct {
	leaf    api.Leaf
	c       api.Column
	rows    int
	enc     int
	words   []api.Value
	r, d, v string
}{
	// Of no levels: a Required leaf's.
	{lf(0, 0, api.Int64), of("00", ns(7)...), 1, api.Plain, nil, "", "", "\x07\x00\x00\x00\x00\x00\x00\x00"},
	{lf(0, 0, api.Int64), of("00 00 00", ns(5, 6, 7)...), 3, api.Delta, nil, "", "", "\x0a\x02\x00"},
	{lf(0, 0, api.Int64), of("00 00 00", ns(5, 6, 5)...), 3, api.Dict, ns(5, 6), "", "", "\x03\x02"},
	{lf(0, 0, api.Int64), of("00 00 00", ns(5, 5, 5)...), 3, api.Dict, ns(5), "", "", ""}, // of one word nothing needs to be told
	{lf(0, 0, api.Int32), of("00 00", ns(-2, math.MaxInt32)...), 2, api.Plain, nil, "", "", "\xfe\xff\xff\xff\xff\xff\xff\x7f"},
	{lf(0, 0, api.Bool), of("00 00 00", ns(1, 0, 1)...), 3, api.Plain, nil, "", "", "\x05"},
	{lf(0, 0, api.Bool), of("00 00 00", ns(1, 0, 1)...), 3, api.Delta, nil, "", "", "\x05"},
	{lf(0, 0, api.Bool), of("00 00 00", ns(1, 0, 1)...), 3, api.Dict, ns(1, 0), "", "", "\x03\x02"},
	{lf(0, 0, api.Bytes), of("00 00", ss("a", "")...), 2, api.Plain, nil, "", "", "\x01\x00\x00\x00a\x00\x00\x00\x00"},
	{lf(0, 0, api.Bytes), of("00 00", ss("a", "")...), 2, api.Delta, nil, "", "", "\x02\x01\x00a"},
	// An Optional one's.
	{lf(0, 1, api.Bytes), of("01 00 01", ss("a", "")...), 3, api.Plain, nil, "", "\x03\x05", "\x01\x00\x00\x00a\x00\x00\x00\x00"},
	{lf(0, 1, api.Bytes), of("01 00 01", ss("a", "")...), 3, api.Dict, ss("", "a"), "", "\x03\x05", "\x03\x01"},
	{lf(0, 1, api.Bytes), of("01 00 01", ss("a", "b")...), 3, api.Dict, ss("c", "b", "d", "a", "e"), "", "\x03\x05", "\x03\x0b\x00\x00"}, // 3, 1, of three bits
	{lf(0, 1, api.Int64), of("00 00"), 2, api.Plain, nil, "", "\x04\x00", ""},                                                            // no values
	{lf(0, 1, api.Int64), of("00 00"), 2, api.Delta, nil, "", "\x04\x00", ""},
	{lf(0, 1, api.Int64), of("00 00"), 2, api.Dict, nil, "", "\x04\x00", ""},
	{lf(0, 1, api.Int64), of("00 00"), 2, api.Dict, ns(1, 2, 3), "", "\x04\x00", ""},
	// A Repeated one's.
	{lf(1, 1, api.Bool), of("01 11 00 01", ns(0, 1, 1)...), 3, api.Plain, nil, "\x03\x02", "\x03\x0b", "\x06"},
	{lf(1, 1, api.Int32), of("01 11 11 11 11 11 11 11 11 11", ns(1, 2, 3, 4, 5, 6, 7, 8, 9, 10)...), 1, api.Delta, nil, "\x03\xfe\x04\x01", "\x14\x01", "\x02\x02\x00"},
	{lf(1, 2, api.Int64), of("02 12 01", ns(1, 1)...), 2, api.Plain, nil, "\x03\x02", "\x03\x1a\x00", "\x01\x00\x00\x00\x00\x00\x00\x00\x01\x00\x00\x00\x00\x00\x00\x00"},
	{lf(1, 2, api.Int64), of("02 12 01", ns(1, 1)...), 2, api.Delta, nil, "\x03\x02", "\x03\x1a\x00", "\x02\x00\x00"},
	{lf(2, 2, api.Bytes), of("02 22 11 12 01", ss("en-us", "en", "en-gb")...), 2, api.Delta, nil, "\x03\x58\x00", "\x03\x9a\x01", "\x0a\x05\x03\x30en-usenen-gb"},
	{lf(2, 2, api.Bytes), of("02 22 11 12 01", ss("en-us", "en", "en-gb")...), 2, api.Dict, ss("en-us", "en", "en-gb"), "\x03\x58\x00", "\x03\x9a\x01", "\x03\x24\x00"},
	{lf(2, 3, api.Bytes), of("00 00 00"), 3, api.Plain, nil, "\x06\x00", "\x06\x00", ""},
	{lf(4, 8, api.Bool), of("08 45", ns(1)...), 1, api.Plain, nil, "\x03\x20\x00\x00", "\x03\x58\x00\x00\x00", "\x01"}, // of three bits, and of four
}

// sum is the sum of bytes.
func sum(b string) uint32 { return crc32.ChecksumIEEE([]byte(b)) }

// width is how many bits tell what is at most so great.
func width(most int) (n int) {
	for most>>n > 0 {
		n++
	}
	return n
}

// pageOf is the page of parts.
func pageOf(rows, cells, enc int, r, d, v string) api.Page {
	return api.Page{Rows: rows, Cells: cells, Enc: enc, RLen: len(r), DLen: len(d), VLen: len(v), Crc: sum(r + d + v)}
}

// encoded is Encode by its words.
func encoded(leaf api.Leaf, c api.Column, rows, enc int, words []api.Value) (api.Page, string) {
	r, d := string(level.Encode(c.R, width(leaf.R))), string(level.Encode(c.D, width(leaf.D)))
	var v []byte
	switch enc {
	case api.Plain:
		v = plain.Encode(leaf.Kind, c.V)
	case api.Delta:
		v = delta.Encode(leaf.Kind, c.V)
	case api.Dict:
		var at []int
		for _, x := range c.V {
			at = append(at, slices.Index(words, x))
		}
		v = dict.Encode(at, len(words))
	}
	return pageOf(rows, len(c.R), enc, r, d, string(v)), r + d + string(v)
}

// within tells whether n is from least to most.
func within(least, n, most int) bool { return least <= n && n <= most }

// count is how many of l are n.
func count(l []int, n int) (k int) {
	for _, v := range l {
		if v == n {
			k++
		}
	}
	return k
}

// read is Decode by its words. (Lengths that are no longer than b do not wrap round.)
func read(leaf api.Leaf, p api.Page, b []byte, words []api.Value) (c api.Column, e api.Errno) {
	switch {
	case !within(1, p.Rows, 64), !within(p.Rows, p.Cells, 4000), !within(0, p.Enc, 2):
		return api.Column{}, api.ErrBad
	case !within(0, p.RLen, len(b)), !within(0, p.DLen, len(b)), !within(0, p.VLen, len(b)), p.RLen+p.DLen+p.VLen != len(b):
		return api.Column{}, api.ErrBad
	case crc32.ChecksumIEEE(b) != p.Crc:
		return api.Column{}, api.ErrSum
	}
	r, d, v := b[:p.RLen], b[p.RLen:p.RLen+p.DLen], b[p.RLen+p.DLen:]
	if c.R, e = level.Decode(r, p.Cells, width(leaf.R)); e != api.OK {
		return api.Column{}, e
	}
	if c.D, e = level.Decode(d, p.Cells, width(leaf.D)); e != api.OK {
		return api.Column{}, e
	}
	if slices.Max(c.R) > leaf.R || slices.Max(c.D) > leaf.D || c.R[0] != 0 || count(c.R, 0) != p.Rows {
		return api.Column{}, api.ErrBad
	}
	switch n := count(c.D, leaf.D); p.Enc {
	case api.Plain:
		c.V, e = plain.Decode(leaf.Kind, v, n)
	case api.Delta:
		c.V, e = delta.Decode(leaf.Kind, v, n)
	case api.Dict:
		c.V, e = dict.Decode(v, n, words)
	}
	if e != api.OK {
		return api.Column{}, e
	}
	return c, api.OK
}

// mix tells numbers in whose bits there is no order to be seen.
type mix uint64

const seed = mix(88172645463325252)

func (m *mix) below(n int) int {
	*m ^= *m << 13
	*m ^= *m >> 7
	*m ^= *m << 17
	return int(*m >> 1 % mix(n))
}

func pick[T any](m *mix, l ...T) T { return l[m.below(len(l))] }

// value makes one of a kind.
func (m *mix) value(kind int) api.Value {
	switch kind {
	case api.Bool:
		return api.Value{N: m.below(2)}
	case api.Int32:
		return api.Value{N: pick(m, m.below(9), -m.below(9), math.MinInt32, math.MaxInt32, m.below(1<<32)-1<<31)}
	case api.Int64:
		return api.Value{N: pick(m, m.below(9), -m.below(9), math.MinInt, math.MaxInt, int(*m))}
	}
	return api.Value{S: pick(m, "", "a", "\x00", "\xff\xc3(", "\u00e9", y(100), strconv.Itoa(m.below(1000)), y(m.below(101)))}
}

// leaf makes one that a schema may have.
func (m *mix) leaf() api.Leaf {
	d := m.below(9)
	return lf(m.below(d+1), d, pick(m, kinds...))
}

// column makes one of so many records; at most cells are behind the first one of each.
func (m *mix) column(leaf api.Leaf, rows, cells int) (c api.Column) {
	for range rows {
		c.R, c.D = append(c.R, 0), append(c.D, m.below(leaf.D+1))
		for range m.below(cells + 1) {
			if leaf.R > 0 {
				c.R, c.D = append(c.R, 1+m.below(leaf.R)), append(c.D, m.below(leaf.D+1))
			}
		}
	}
	for range count(c.D, leaf.D) {
		c.V = append(c.V, m.value(leaf.Kind))
	}
	return c
}

// words makes a dictionary of values, and of some others.
func (m *mix) words(leaf api.Leaf, c api.Column) []api.Value {
	words := slices.Clone(c.V)
	for range m.below(4) {
		words = append(words, m.value(leaf.Kind))
	}
	words, _, fits := dict.Build(leaf.Kind, words, 256)
	if !fits {
		panic("too many words")
	}
	for i := range words {
		k := m.below(i + 1)
		words[i], words[k] = words[k], words[i]
	}
	return words
}

// spoil changes a text a little.
func (m *mix) spoil(s string) string {
	at := m.below(len(s) + 1)
	b := []byte(s)
	switch {
	case m.below(4) == 0:
		b = b[:at]
	case m.below(3) == 0:
		b = slices.Insert(b, at, byte(m.below(256)))
	case m.below(2) == 0:
		b = slices.Delete(b, at, min(at+1, len(b)))
	case at < len(b):
		b[at] ^= 1 << m.below(8)
	}
	return string(b)
}

// told is b as it is told where something is wrong: of a great one only how it begins.
func told[B string | []byte](b B) string { return strconv.Quote(string(b[:min(200, len(b))])) }

// wantEncoded, wantCells, wantError, wantAsRead ask for what Encode and Decode answer.
func wantEncoded(t *testing.T, leaf api.Leaf, c api.Column, rows, enc int, words []api.Value, p api.Page, b string) {
	t.Helper()
	if gotPage, got := page.Encode(leaf, c, rows, enc, words); gotPage != p || string(got) != b {
		t.Errorf("Encode(%v, %v, %d, %d, %v): %+v, %s, want %+v, %s", leaf, c, rows, enc, words, gotPage, told(got), p, told(b))
	}
}

func wantCells(t *testing.T, leaf api.Leaf, p api.Page, b string, words []api.Value, want api.Column) {
	t.Helper()
	if got, e := page.Decode(leaf, p, []byte(b), words); e != api.OK || !shred.Same(got, want) {
		t.Errorf("Decode(%v, %+v, %s, %v): %v, %v, want %v", leaf, p, told(b), words, got, e, want)
	}
}

func wantError(t *testing.T, leaf api.Leaf, p api.Page, b string, words []api.Value, want api.Errno) {
	t.Helper()
	if got, e := page.Decode(leaf, p, []byte(b), words); e != want || !shred.Same(got, api.Column{}) {
		t.Errorf("Decode(%v, %+v, %s, %v): %v, %v, want %v", leaf, p, told(b), words, got, e, want)
	}
}

func wantAsRead(t *testing.T, leaf api.Leaf, p api.Page, b string, words []api.Value) api.Errno {
	t.Helper()
	want, wrong := read(leaf, p, []byte(b), words)
	if got, e := page.Decode(leaf, p, []byte(b), words); e != wrong || !shred.Same(got, want) {
		t.Errorf("Decode(%v, %+v, %s, %v): %v, %v, want %v, %v", leaf, p, told(b), words, got, e, want, wrong)
	}
	return wrong
}

func TestP1801ByHand(t *testing.T) {
	for _, x := range printed {
		wantEncoded(t, x.leaf, x.c, x.rows, x.enc, x.words, pageOf(x.rows, len(x.c.R), x.enc, x.r, x.d, x.v), x.r+x.d+x.v)
	}
	wantEncoded(t, lf(0, 0, api.Bytes), of("00", ss("12345")...), 1, api.Plain, nil, api.Page{Rows: 1, Cells: 1, VLen: 9, Crc: sum("\x05\x00\x00\x0012345")}, "\x05\x00\x00\x0012345")
}

func TestP1801WordsOfOtherEncodingsSayNothing(t *testing.T) {
	for _, x := range printed {
		if x.enc != api.Dict {
			wantEncoded(t, x.leaf, x.c, x.rows, x.enc, ns(-9, -8), pageOf(x.rows, len(x.c.R), x.enc, x.r, x.d, x.v), x.r+x.d+x.v)
			wantCells(t, x.leaf, pageOf(x.rows, len(x.c.R), x.enc, x.r, x.d, x.v), x.r+x.d+x.v, make([]api.Value, 300), x.c)
		}
	}
}

func TestP1801EveryWidth(t *testing.T) {
	// As many bits as the leaf's own levels have, whether or not a cell has so high ones.
	for d := range 9 {
		for r := range d + 1 {
			for _, x := range []struct{ rep, def int }{{0, 0}, {r, d}, {r, 0}, {0, d}, {(r + 1) / 2, d / 2}} {
				c := api.Column{R: []int{0, x.rep}, D: []int{0, x.def}}
				rows := count(c.R, 0)
				for range count(c.D, d) {
					c.V = append(c.V, api.Value{N: 1})
				}
				p, b := encoded(lf(r, d, api.Bool), c, rows, api.Plain, nil)
				wantEncoded(t, lf(r, d, api.Bool), c, rows, api.Plain, nil, p, b)
				wantCells(t, lf(r, d, api.Bool), p, b, nil, c)
				if want := len(level.Encode(c.R, bits.Width(uint64(r)))); p.RLen != want {
					t.Errorf("R %d: %d bytes, want %d", r, p.RLen, want)
				}
			}
		}
	}
}

func TestP1801EveryWord(t *testing.T) {
	// Of a dictionary of any size, its first and its last word, and all of them.
	for n := 1; n <= 256; n++ {
		var words []api.Value
		for i := range n {
			words = append(words, api.Value{N: i*i - 1000*i})
		}
		words, _, _ = dict.Build(api.Int64, words, 256)
		for _, v := range [][]api.Value{words[:1], words[len(words)-1:], {words[len(words)-1], words[0]}, words} {
			c := api.Column{R: make([]int, len(v)), D: slices.Repeat([]int{1}, len(v)), V: v}
			for i := range c.R {
				c.R[i] = min(i, 1)
			}
			p, b := encoded(lf(1, 1, api.Int64), c, 1, api.Dict, words)
			wantEncoded(t, lf(1, 1, api.Int64), c, 1, api.Dict, words, p, b)
			wantCells(t, lf(1, 1, api.Int64), p, b, words, c)
		}
	}
}

func TestP1801EqualWords(t *testing.T) {
	// A dictionary in which a word comes twice is none that dict builds; of both places a value has the first.
	words := ss("a", "b", "a", "c", "b", "c")
	leaf, c := lf(0, 1, api.Bytes), of("01 00 01 01", ss("c", "a", "b")...)
	p, b := encoded(leaf, c, 4, api.Dict, words)
	wantEncoded(t, leaf, c, 4, api.Dict, words, p, b)
	wantCells(t, leaf, p, b, words, c)
}

func TestP1801ByTheWords(t *testing.T) {
	m := seed
	for range 20000 {
		leaf, rows := m.leaf(), 1+m.below(pick(&m, 3, 10, 64))
		c := m.column(leaf, rows, m.below(3))
		words := m.words(leaf, c)
		for _, enc := range encs {
			p, b := encoded(leaf, c, rows, enc, words)
			wantEncoded(t, leaf, c, rows, enc, words, p, b)
		}
	}
}

func TestP1802Example(t *testing.T) {
	wantError(t, lf(0, 0, api.Bool), api.Page{}, "", nil, api.ErrBad)
	for _, x := range printed {
		wantError(t, x.leaf, pageOf(0, len(x.c.R), x.enc, x.r, x.d, x.v), x.r+x.d+x.v, x.words, api.ErrBad)
	}
}

func TestP1802ByHand(t *testing.T) {
	for _, x := range printed {
		wantCells(t, x.leaf, pageOf(x.rows, len(x.c.R), x.enc, x.r, x.d, x.v), x.r+x.d+x.v, x.words, x.c)
	}
	// What Encode doesn't write: runs and groups that are other ones, and words that are equal.
	leaf := lf(1, 2, api.Int64)
	c := of("02 12 01", ns(7, 7)...)
	r, d, v := "\x02\x00\x02\x01\x02\x00", "\x04\x02\x02\x01", "\x02\x01\x02\x00"
	wantCells(t, leaf, pageOf(2, 3, api.Dict, r, d, v), r+d+v, ns(7, 7), c)
}

func TestP1802Rows(t *testing.T) {
	for _, x := range printed {
		for _, rows := range append(strange, 0, 65, 66, 128, 256, 257, 320) {
			p := pageOf(rows, len(x.c.R), x.enc, x.r, x.d, x.v)
			wantError(t, x.leaf, p, x.r+x.d+x.v, x.words, api.ErrBad)
			p.Cells = 4000
			wantError(t, x.leaf, p, x.r+x.d+x.v, x.words, api.ErrBad)
			p.Cells = rows
			wantError(t, x.leaf, p, x.r+x.d+x.v, x.words, api.ErrBad)
		}
	}
	for rows := -3; rows < 70; rows++ {
		if rows < 1 || rows > 64 {
			wantError(t, lf(0, 1, api.Bool), pageOf(rows, rows, api.Plain, "", "", ""), "", nil, api.ErrBad)
			continue
		}
		d := string(level.Encode(make([]int, rows), 1))
		wantCells(t, lf(0, 1, api.Bool), pageOf(rows, rows, api.Plain, "", d, ""), d, nil, api.Column{R: make([]int, rows), D: make([]int, rows)})
	}
}

func TestP1802Cells(t *testing.T) {
	for _, x := range printed {
		for _, cells := range append(strange, x.rows-1, 0, 4001, 4002, 4096) {
			wantError(t, x.leaf, pageOf(x.rows, cells, x.enc, x.r, x.d, x.v), x.r+x.d+x.v, x.words, api.ErrBad)
		}
	}
	// As many as may be.
	leaf := lf(1, 1, api.Bool)
	for _, rows := range []int{1, 2, 63, 64} {
		for _, cells := range []int{rows, rows + 1, 3999, 4000} {
			c := api.Column{R: make([]int, cells), D: make([]int, cells)}
			for i := rows; i < cells; i++ {
				c.R[i] = 1
			}
			p, b := encoded(leaf, c, rows, api.Plain, nil)
			wantCells(t, leaf, p, b, nil, c)
			c.V, c.D = make([]api.Value, cells), slices.Repeat([]int{1}, cells)
			for _, enc := range encs {
				p, b = encoded(leaf, c, rows, enc, ns(1, 0))
				wantCells(t, leaf, p, b, ns(1, 0), c)
			}
		}
	}
}

func TestP1802Enc(t *testing.T) {
	for _, x := range printed {
		for _, enc := range append(strange, 3, 4, 5, 6, 256, 257, 258) {
			wantError(t, x.leaf, pageOf(x.rows, len(x.c.R), enc, x.r, x.d, x.v), x.r+x.d+x.v, x.words, api.ErrBad)
		}
	}
}

func TestP1802Lengths(t *testing.T) {
	for _, x := range printed {
		b := x.r + x.d + x.v
		for _, by := range [][3]int{
			{1, 0, 0}, {0, 1, 0}, {0, 0, 1}, {-1, 0, 0}, {0, -1, 0}, {0, 0, -1}, {1, 1, -1}, {-1, -1, 1},
			{-1 - len(x.r), 1 + len(x.r), 0}, {-1 - len(x.r), 0, 1 + len(x.r)}, // one is negative, and they add up
			{1 + len(x.d), -1 - len(x.d), 0}, {0, -1 - len(x.d), 1 + len(x.d)},
			{1 + len(x.v), 0, -1 - len(x.v)}, {0, 1 + len(x.v), -1 - len(x.v)},
			{math.MinInt, math.MinInt, 0}, {0, math.MinInt, math.MinInt}, {math.MinInt, 0, math.MinInt}, // they wrap round, and add up
			{1 << 62, 1 << 62, math.MinInt}, {math.MaxInt - 99, math.MaxInt - 99, 200}, {200, math.MaxInt - 99, math.MaxInt - 99}, {math.MaxInt - 99, 200, math.MaxInt - 99},
			{1 << 32, 0, 0}, {0, 1 << 32, 0}, {0, 0, 1 << 32}, {-1 << 32, 1 << 32, 0}, {0, 1 << 32, -1 << 32},
		} {
			p := pageOf(x.rows, len(x.c.R), x.enc, x.r, x.d, x.v)
			p.RLen, p.DLen, p.VLen = p.RLen+by[0], p.DLen+by[1], p.VLen+by[2]
			wantError(t, x.leaf, p, b, x.words, api.ErrBad)
			p.Crc++
			wantError(t, x.leaf, p, b, x.words, api.ErrBad)
		}
		p := pageOf(x.rows, len(x.c.R), x.enc, x.r, x.d, x.v)
		for n := range len(b) {
			p.Crc = sum(b[:n])
			wantError(t, x.leaf, p, b[:n], x.words, api.ErrBad)
		}
		p.Crc = sum(b + "\x00")
		wantError(t, x.leaf, p, b+"\x00", x.words, api.ErrBad)
	}
}

func TestP1802LengthsThatWrapRound(t *testing.T) {
	// Three that are not negative make up 0 and more, modulo two to the 64; and so do negative ones.
	for n := range 20 {
		for _, l := range [][3]int{
			{math.MaxInt, math.MaxInt, 2 + n}, {math.MaxInt, 2 + n, math.MaxInt}, {2 + n, math.MaxInt, math.MaxInt},
			{math.MinInt, math.MinInt, n}, {n, math.MinInt, math.MinInt}, {math.MinInt, n, math.MinInt},
			{math.MinInt, math.MaxInt, n + 1}, {-1, n, 1}, {n, -1, 1}, {1, n, -1},
		} {
			b := y(n)
			wantError(t, lf(0, 0, api.Bool), api.Page{Rows: 1, Cells: 1, RLen: l[0], DLen: l[1], VLen: l[2], Crc: sum(b)}, b, nil, api.ErrBad)
		}
	}
}

func TestP1802Sum(t *testing.T) {
	for _, x := range printed {
		b := x.r + x.d + x.v
		for bit := range 32 {
			p := pageOf(x.rows, len(x.c.R), x.enc, x.r, x.d, x.v)
			p.Crc ^= 1 << bit
			wantError(t, x.leaf, p, b, x.words, api.ErrSum)
		}
		for _, wrong := range []uint32{^sum(b), sum(b + "\x00"), sum(x.v + x.d + x.r + "\x00")} {
			p := pageOf(x.rows, len(x.c.R), x.enc, x.r, x.d, x.v)
			p.Crc = wrong
			wantError(t, x.leaf, p, b, x.words, api.ErrSum)
		}
	}
}

func TestP1802FirstErrors(t *testing.T) {
	// Each fault lies ahead of all that are named behind it.
	leaf, words := lf(2, 2, api.Bytes), make([]api.Value, 257)
	one := "\x04\x00"
	for _, x := range []struct {
		rows, cells, enc int
		r, d, v          string
		by               uint32 // which is added to the sum
		want             api.Errno
	}{
		{0, 2, api.Plain, "\x04", "\x80", "x", 1, api.ErrBad},
		{2, 1, api.Plain, "\x04", "\x80", "x", 1, api.ErrBad},
		{2, 2, 3, "\x04", "\x80", "x", 1, api.ErrBad},
		{2, 2, api.Plain, "\x04", "\x80", "x", 1, api.ErrSum},
		{2, 2, api.Dict, "\x04", "\x80", "x", 1, api.ErrSum},
		{2, 2, api.Plain, "\x04", "\x04\x03", "x", 0, api.ErrCut},
		{2, 2, api.Plain, one + "\x00", "\x04", "x", 0, api.ErrMore},
		{2, 2, api.Plain, "\x04\x04", "\x04", "x", 0, api.ErrBad},
		{2, 2, api.Plain, "\xff\xff\xff\xff\xff\xff\xff\xff\xff\x02", "\x04", "x", 0, api.ErrOver},
		{2, 2, api.Plain, "\x04\x03", "\x04", "x", 0, api.ErrCut}, // an R that is too high, but the D can't be read
		{2, 2, api.Plain, "\x04\x03", one + "\x00", "x", 0, api.ErrMore},
		{2, 2, api.Plain, "\x04\x01", "\xff\xff\xff\xff\xff\xff\xff\xff\xff\x02", "x", 0, api.ErrOver}, // the first R is not 0
		{1, 2, api.Plain, one, "\x04", "x", 0, api.ErrCut},                                             // too many R are 0
		{2, 2, api.Plain, "\x04\x03", one, "x", 0, api.ErrBad},
		{2, 2, api.Plain, one, "\x04\x03", "x", 0, api.ErrBad},
		{2, 2, api.Plain, "\x04\x01", one, "x", 0, api.ErrBad},
		{1, 2, api.Plain, one, one, "x", 0, api.ErrBad},
		{2, 3, api.Plain, "\x03\x10\x00", "\x06\x02", "", 0, api.ErrCut}, // now the levels are right
		{2, 3, api.Plain, "\x03\x14\x00", "\x06\x02", "", 0, api.ErrBad}, // one record, not two
		{2, 2, api.Plain, one, one, "x", 0, api.ErrMore},
		{2, 2, api.Dict, "\x04\x03", one, "x", 0, api.ErrBad},
		{1, 2, api.Dict, one, one, "x", 0, api.ErrBad},
		{2, 2, api.Dict, one, one, "x", 0, api.ErrMany},
	} {
		p := pageOf(x.rows, x.cells, x.enc, x.r, x.d, x.v)
		p.Crc += x.by
		wantError(t, leaf, p, x.r+x.d+x.v, words, x.want)
	}
}

func TestP1802LevelsAboveTheLeafs(t *testing.T) {
	// The width has room for higher ones, unless all of its bits are those of the leaf's own.
	for most := range 9 {
		room := 1<<width(most) - 1
		for v := range room + 1 {
			for place := range 3 {
				at := [3]int{}
				at[place] = v
				other := "\x06\x00"
				l := string(level.Encode(at[:], width(most)))
				want := api.OK
				if v > most {
					want = api.ErrBad
				}
				rows := 3
				if v > 0 {
					rows = 2
				}
				if place > 0 {
					_, e := page.Decode(lf(most, 1+most%7, api.Bool), pageOf(rows, 3, api.Plain, l, other, ""), []byte(l+other), nil)
					if e != want {
						t.Errorf("an R of %d, at most %d: %v, want %v", v, most, e, want)
					}
				}
				vs := ""
				if v == most {
					vs = "\x01"
				}
				if most > 0 {
					_, e := page.Decode(lf(0, most, api.Bool), pageOf(3, 3, api.Plain, "", l, vs), []byte(l+vs), nil)
					if e != want {
						t.Errorf("a D of %d, at most %d: %v, want %v", v, most, e, want)
					}
				}
			}
		}
	}
}

func TestP1802RecordsAsTheRSay(t *testing.T) {
	// All R of up to six cells, and all numbers of records.
	leaf := lf(2, 1, api.Int64)
	for cells := 1; cells <= 6; cells++ {
		rs := make([]int, cells)
		for i := range int(math.Pow(4, float64(cells))) {
			for k := range rs {
				rs[k] = i >> (2 * k) & 3
			}
			r, d := string(level.Encode(rs, 2)), string(level.Encode(make([]int, cells), 1))
			for rows := 1; rows <= cells; rows++ {
				p := pageOf(rows, cells, api.Plain, r, d, "")
				if rs[0] == 0 && count(rs, 0) == rows && slices.Max(rs) < 3 {
					wantCells(t, leaf, p, r+d, nil, api.Column{R: rs, D: make([]int, cells)})
				} else {
					wantError(t, leaf, p, r+d, nil, api.ErrBad)
				}
			}
		}
	}
}

func TestP1802Values(t *testing.T) {
	// Two records, of which one, both or none have a value.
	none, one, two := "\x04\x00", "\x03\x01", "\x04\x01"
	for _, x := range []struct {
		kind, enc int
		d, v      string
		want      api.Errno
	}{
		{api.Bool, api.Plain, none, "", api.OK},
		{api.Bool, api.Plain, none, "\x00", api.ErrMore},
		{api.Bool, api.Plain, one, "\x01", api.OK},
		{api.Bool, api.Plain, one, "\x02", api.ErrBad},
		{api.Bool, api.Plain, two, "\x02", api.OK},
		{api.Bool, api.Plain, two, "\x04", api.ErrBad},
		{api.Bool, api.Plain, two, "", api.ErrCut},
		{api.Bool, api.Plain, two, "\x02\x00", api.ErrMore},
		{api.Bool, api.Delta, two, "\x04", api.ErrBad},
		{api.Bool, api.Delta, two, "", api.ErrCut},
		{api.Int32, api.Plain, one, "\x00\x00\x00\x80", api.OK},
		{api.Int32, api.Plain, one, "\x00\x00\x00", api.ErrCut},
		{api.Int32, api.Plain, two, "\x00\x00\x00\x80", api.ErrCut},
		{api.Int32, api.Plain, none, "\x00\x00\x00\x80", api.ErrMore},
		{api.Int32, api.Delta, one, "\xfe\xff\xff\xff\x0f", api.OK},
		{api.Int32, api.Delta, one, "\x80\x80\x80\x80\x10", api.ErrOver},
		{api.Int32, api.Delta, one, "\x80\x80\x80\x80\x80\x80\x80\x80\x80\x02", api.ErrOver},
		{api.Int32, api.Delta, two, "\x02\x02\x41\x00", api.ErrBad},
		{api.Int64, api.Plain, one, "\x00\x00\x00\x00\x00\x00\x00\x80", api.OK},
		{api.Int64, api.Plain, one, "\x00\x00\x00\x80", api.ErrCut},
		{api.Int64, api.Delta, one, "\x80\x80\x80\x80\x10", api.OK},
		{api.Int64, api.Delta, one, "", api.ErrCut},
		{api.Int64, api.Delta, one, "\x02\x02\x00", api.ErrMore},
		{api.Int64, api.Delta, two, "\x02\x02\x00", api.OK},
		{api.Int64, api.Delta, two, "\x02\x02\x01\x02", api.ErrBad},
		{api.Int64, api.Delta, none, "\x00", api.ErrMore},
		{api.Bytes, api.Plain, one, "\x01\x00\x00\x00a", api.OK},
		{api.Bytes, api.Plain, one, "\x01\x00\x00\x00", api.ErrCut},
		{api.Bytes, api.Plain, one, "\x64\x00\x00\x00" + y(100), api.OK},
		{api.Bytes, api.Plain, one, "\x65\x00\x00\x00" + y(101), api.ErrLong},
		{api.Bytes, api.Plain, two, "\x01\x00\x00\x00a\x00\x00\x00\x00b", api.ErrMore},
		{api.Bytes, api.Delta, one, "\xc8\x01" + y(100), api.OK},
		{api.Bytes, api.Delta, one, "\xca\x01" + y(101), api.ErrLong},
		{api.Bytes, api.Delta, one, "\x01", api.ErrLong},
		{api.Bytes, api.Delta, one, "\x04a", api.ErrCut},
		{api.Bytes, api.Delta, one, "\x02ab", api.ErrMore},
		{api.Bytes, api.Dict, none, "", api.OK},
		{api.Bytes, api.Dict, none, "\x02\x00", api.ErrMore},
		{api.Bytes, api.Dict, one, "\x02\x02", api.OK}, // of three words
		{api.Bytes, api.Dict, one, "\x02\x03", api.ErrBad},
		{api.Bytes, api.Dict, one, "\x02\x04", api.ErrBad},
		{api.Bytes, api.Dict, one, "", api.ErrCut},
		{api.Bytes, api.Dict, two, "\x02\x02", api.ErrCut},
		{api.Bytes, api.Dict, two, "\x04\x02\x00", api.ErrMore},
		{api.Bytes, api.Dict, two, "\x06\x02", api.ErrBad},
		{api.Bytes, api.Dict, two, "\xff\xff\xff\xff\xff\xff\xff\xff\xff\x02", api.ErrOver},
	} {
		p := pageOf(2, 2, x.enc, "", x.d, x.v)
		if e := wantAsRead(t, lf(0, 1, x.kind), p, x.d+x.v, ss("a", "b", "c")); e != x.want {
			t.Errorf("Decode of kind %d, encoding %d, %x, %x: %v, want %v", x.kind, x.enc, x.d, x.v, e, x.want)
		}
	}
}

func TestP1802Words(t *testing.T) {
	d, v := "\x04\x01", "\x04\x00"
	for _, n := range []int{0, 1, 2, 3, 255, 256, 257, 258, 512, 513, 1 << 16} {
		var words []api.Value
		for i := range n {
			words = append(words, api.Value{N: i - 5})
		}
		leaf := lf(0, 1, api.Int64)
		switch {
		case n == 0:
			wantError(t, leaf, pageOf(2, 2, api.Dict, "", d, ""), d, words, api.ErrBad) // there is no first one
			wantCells(t, leaf, pageOf(2, 2, api.Dict, "", "\x04\x00", ""), "\x04\x00", words, of("00 00"))
		case n == 1:
			wantCells(t, leaf, pageOf(2, 2, api.Dict, "", d, ""), d, words, of("01 01", ns(-5, -5)...))
			wantError(t, leaf, pageOf(2, 2, api.Dict, "", d, v), d+v, words, api.ErrMore)
		case n <= 256:
			wantCells(t, leaf, pageOf(2, 2, api.Dict, "", d, v), d+v, words, of("01 01", ns(-5, -5)...))
		default:
			wantError(t, leaf, pageOf(2, 2, api.Dict, "", d, v), d+v, words, api.ErrMany)
			wantError(t, leaf, pageOf(2, 2, api.Dict, "", "\x04\x00", ""), "\x04\x00", words, api.ErrMany)
		}
	}
}

func TestP1802EveryTwoBytes(t *testing.T) {
	good := "\x03\x02"
	words := ns(4, 5, 6)
	for x := range 1 << 16 {
		b := string([]byte{byte(x), byte(x >> 8)})
		for _, cells := range []int{2, 3, 8, 9} {
			for rows := 1; rows <= 2; rows++ {
				wantAsRead(t, lf(2, 1, api.Bool), pageOf(rows, cells, api.Plain, b, good, "\x01"), b+good+"\x01", nil)
				wantAsRead(t, lf(1, 2, api.Bool), pageOf(rows, cells, api.Plain, good, b, "\x01"), good+b+"\x01", nil)
			}
		}
		for _, enc := range encs {
			wantAsRead(t, lf(1, 1, api.Int64), pageOf(2, 3, enc, good, "\x03\x05", b), good+"\x03\x05"+b, words)
			wantAsRead(t, lf(1, 1, api.Bytes), pageOf(2, 3, enc, good, "\x03\x05", b), good+"\x03\x05"+b, words)
		}
	}
}

func TestP1802ByItsWords(t *testing.T) {
	m := seed
	seen := map[api.Errno]int{}
	for range 100000 {
		leaf, rows := m.leaf(), 1+m.below(pick(&m, 2, 5, 64))
		c := m.column(leaf, rows, m.below(3))
		words, enc := m.words(leaf, c), pick(&m, encs...)
		p, b := encoded(leaf, c, rows, enc, words)
		parts := [3]string{b[:p.RLen], b[p.RLen : p.RLen+p.DLen], b[p.RLen+p.DLen:]}
		for range m.below(3) {
			k := m.below(3)
			parts[k] = m.spoil(parts[k])
		}
		p = pageOf(rows, len(c.R), enc, parts[0], parts[1], parts[2])
		if m.below(4) == 0 { // another leaf, other numbers, other words
			n := pick(&m, &leaf.R, &leaf.D, &leaf.Kind, &p.Rows, &p.Cells, &p.Enc, &p.RLen, &p.DLen, &p.VLen)
			*n += 1 - m.below(3)
			leaf.R, leaf.D, leaf.Kind = max(0, leaf.R), max(0, leaf.D), min(4, max(1, leaf.Kind))
			words = words[m.below(len(words)+1):]
		}
		if m.below(9) == 0 {
			p.Crc ^= 1 << m.below(32)
		}
		if m.below(9) == 0 {
			words = make([]api.Value, 257)
		}
		seen[wantAsRead(t, leaf, p, strings.Join(parts[:], ""), words)]++
	}
	for _, e := range []api.Errno{api.OK, api.ErrBad, api.ErrSum, api.ErrCut, api.ErrMore, api.ErrMany} {
		if seen[e] < 1000 {
			t.Errorf("%v was seen %d times", e, seen[e])
		}
	}
}

func TestP1803AllSmallColumns(t *testing.T) {
	// Up to four cells of leaves of R and D up to 2, with values of two that come in turn.
	for _, leaf := range []api.Leaf{lf(0, 0, api.Bool), lf(0, 1, api.Bytes), lf(1, 1, api.Int32), lf(1, 2, api.Bytes), lf(2, 2, api.Int64), lf(0, 2, api.Bool)} {
		values := ns(1, 0)
		if leaf.Kind == api.Bytes {
			values = ss("", "a")
		}
		for cells := 1; cells <= 4; cells++ {
			for i := range int(math.Pow(9, float64(cells))) {
				var c api.Column
				for k := i; len(c.R) < cells; k /= 9 {
					c.R, c.D = append(c.R, k%3), append(c.D, k/3%3)
				}
				if c.R[0] != 0 || slices.Max(c.R) > leaf.R || slices.Max(c.D) > leaf.D {
					continue
				}
				for k := range count(c.D, leaf.D) {
					c.V = append(c.V, values[k%2])
				}
				for _, enc := range encs {
					p, b := page.Encode(leaf, c, count(c.R, 0), enc, values)
					wantCells(t, leaf, p, string(b), values, c)
				}
			}
		}
	}
}

func TestP1803AnyColumns(t *testing.T) {
	m := seed
	for range 10000 {
		leaf, rows := m.leaf(), 1+m.below(64)
		c := m.column(leaf, rows, m.below(3))
		words := m.words(leaf, c)
		for _, enc := range encs {
			p, b := page.Encode(leaf, c, rows, enc, words)
			wantCells(t, leaf, p, string(b), words, c)
		}
	}
}

// papers are records, and their schema.
func papers() (api.Schema, []api.Tree) {
	s := api.Schema{
		{Name: "doc", Kids: 3},
		{Name: "id", Kind: api.Int64},
		{Name: "ok", Rep: api.Optional, Kind: api.Bool},
		{Name: "name", Rep: api.Repeated, Kids: 2},
		{Name: "code", Rep: api.Repeated, Kind: api.Int32},
		{Name: "url", Rep: api.Optional, Kind: api.Bytes},
	}
	var l []api.Tree
	for i := range 100 {
		var ok, names []api.Tree
		if i%3 > 0 {
			ok = []api.Tree{{N: i % 2}}
		}
		for k := range i % 4 {
			var codes, urls []api.Tree
			for n := range (i + k) % 3 {
				codes = append(codes, api.Tree{N: n - i})
			}
			if k != 1 {
				urls = []api.Tree{{S: "http://" + strconv.Itoa(i%7)}}
			}
			names = append(names, api.Tree{Kids: [][]api.Tree{codes, urls}})
		}
		l = append(l, api.Tree{Kids: [][]api.Tree{{{N: i * i}}, ok, names}})
	}
	return s, l
}

func TestP1803OfRecords(t *testing.T) {
	s, l := papers()
	columns, e := shred.Columns(s, l)
	if e != api.OK {
		t.Fatal(e)
	}
	for i, leaf := range schema.Leaves(s) {
		words, _, _ := dict.Build(leaf.Kind, columns[i].V, 256)
		for rows := 1; rows <= 64; rows++ {
			for from := range len(l) - rows + 1 {
				c := shred.Cut(columns[i], leaf, from, from+rows)
				enc := from % 3
				p, b := page.Encode(leaf, c, rows, enc, words)
				if p.Rows != rows || p.Cells != len(c.D) || p.Enc != enc {
					t.Errorf("Encode(%v, %v, %d, %d): %+v", leaf, c, rows, enc, p)
				}
				wantCells(t, leaf, p, string(b), words, c)
			}
		}
	}
}

// wantSum asks for ErrSum where bits of b, from one on, are those of a pattern turned.
func wantSum(t *testing.T, leaf api.Leaf, p api.Page, b string, words []api.Value, bit int, pattern uint32) {
	t.Helper()
	other := []byte(b)
	for i := range 32 {
		if at := bit + i; pattern>>i&1 == 1 && at/8 < len(b) {
			other[at/8] ^= 1 << (at % 8)
		}
	}
	if string(other) != b {
		wantError(t, leaf, p, string(other), words, api.ErrSum)
	}
}

func TestP1803OneBitOrTwo(t *testing.T) {
	for _, x := range printed {
		p, b := page.Encode(x.leaf, x.c, x.rows, x.enc, x.words)
		for bit := range 8 * len(b) {
			for second := range 32 {
				wantSum(t, x.leaf, p, string(b), x.words, bit, 1|1<<second)
			}
		}
	}
}

func TestP1803OneByte(t *testing.T) {
	for _, x := range printed {
		p, b := page.Encode(x.leaf, x.c, x.rows, x.enc, x.words)
		for at := range b {
			for v := range uint32(256) {
				wantSum(t, x.leaf, p, string(b), x.words, 8*at, v)
			}
		}
	}
}

func TestP1803Within32Bits(t *testing.T) {
	m := seed
	for range 2000 {
		leaf, rows := m.leaf(), 1+m.below(20)
		c := m.column(leaf, rows, m.below(3))
		words, enc := m.words(leaf, c), pick(&m, encs...)
		p, b := page.Encode(leaf, c, rows, enc, words)
		for range 50 {
			if len(b) > 0 {
				wantSum(t, leaf, p, string(b), words, m.below(8*len(b)), pick(&m, math.MaxUint32, uint32(m)|1, 1|1<<31, uint32(m)>>m.below(32)))
			}
		}
	}
}

func TestP1AnyArguments(t *testing.T) {
	m := seed
	number := func() int { return pick(&m, append(strange, 0, 1, 2, 3, 4, 5, 8, 16, 64)...) }
	value := func() api.Value { return api.Value{N: number(), S: pick(&m, "", "a", "\xff", y(5000))} }
	numbers := func() (l []int) {
		for range m.below(5) {
			l = append(l, number())
		}
		return l
	}
	values := func() (l []api.Value) {
		for range m.below(5) {
			l = append(l, value())
		}
		return l
	}
	for range 50000 {
		leaf := api.Leaf{Field: number(), R: number(), D: number(), Kind: number()}
		p, b := page.Encode(leaf, api.Column{R: numbers(), D: numbers(), V: values()}, number(), pick(&m, number(), m.below(3)), values())
		page.Decode(leaf, p, b, values())
		p = api.Page{Rows: pick(&m, number(), 1), Cells: pick(&m, number(), 1, 2), Enc: pick(&m, number(), m.below(3)), RLen: number(), DLen: number(), VLen: number(), Crc: uint32(number())}
		page.Decode(leaf, p, b, values())
		p.RLen, p.DLen, p.VLen, p.Crc = m.below(3), m.below(3), m.below(3), sum("")
		b = []byte("\x02\x00\x02\x00\x02\x00\x00\x00\x00")[:p.RLen+p.DLen+p.VLen]
		p.Crc = sum(string(b))
		page.Decode(leaf, p, b, values())
	}
}

func TestP1AnyLeaf(t *testing.T) {
	// There are no such leaves.
	for _, n := range append(strange, 0, 1, 15, 16, 65535, 65536) {
		for _, leaf := range []api.Leaf{lf(n, 1, api.Bool), lf(1, n, api.Bool), lf(n, n, api.Bytes), lf(1, 1, n)} {
			for _, x := range printed {
				for _, enc := range encs {
					page.Decode(leaf, pageOf(x.rows, len(x.c.R), enc, x.r, x.d, x.v), []byte(x.r+x.d+x.v), x.words)
					p, b := page.Encode(leaf, x.c, x.rows, enc, x.words)
					page.Decode(leaf, p, b, x.words)
				}
			}
		}
	}
}

func TestP1GreatPages(t *testing.T) {
	leaf := lf(1, 1, api.Bytes)
	c := api.Column{R: make([]int, 1<<20), D: slices.Repeat([]int{1}, 1<<20), V: slices.Repeat(ss("a", "b"), 1<<19)}
	for _, enc := range encs {
		p, b := page.Encode(leaf, c, 64, enc, ss("b", "a"))
		if p.Cells != 1<<20 || p.RLen+p.DLen+p.VLen != len(b) {
			t.Errorf("%+v, %d bytes", p, len(b))
		}
		wantError(t, leaf, p, string(b), ss("b", "a"), api.ErrBad) // too many cells
	}
	b := y(1 << 24)
	wantError(t, leaf, api.Page{Rows: 1, Cells: 1, VLen: 1 << 24}, b, nil, api.ErrSum)
	wantError(t, leaf, api.Page{Rows: 1, Cells: 1, VLen: 1 << 24, Crc: sum(b)}, b, nil, api.ErrCut)
	b = "\x02\x00\x02\x01" + b
	wantError(t, leaf, api.Page{Rows: 1, Cells: 1, RLen: 2, DLen: 2, VLen: 1 << 24, Crc: sum(b)}, b, nil, api.ErrLong)
}

// copied is a column of its own memory, with room behind its lists.
func copied(c api.Column) api.Column {
	return api.Column{
		R: append(slices.Clone(c.R), 77, 78)[:len(c.R)],
		D: append(slices.Clone(c.D), 77, 78)[:len(c.D)],
		V: append(slices.Clone(c.V), ss("more", "more")...)[:len(c.V)],
	}
}

// all is a column with what lies in the room behind its lists.
func all(c api.Column) api.Column {
	return api.Column{R: c.R[:cap(c.R)], D: c.D[:cap(c.D)], V: c.V[:cap(c.V)]}
}

func TestP2ArgumentsAreLeft(t *testing.T) {
	for _, x := range printed {
		c, words := copied(x.c), slices.Concat(x.words, ss("more", "more"))
		was, wasWords := all(copied(x.c)), slices.Clone(words)
		for _, enc := range append(encs, 3) {
			page.Encode(x.leaf, c, x.rows, enc, words[:len(x.words)])
		}
		if !shred.Same(all(c), was) || !slices.Equal(words, wasWords) {
			t.Errorf("Encode(%v, %v, %v) writes into its arguments: %v, %v", x.leaf, x.c, x.words, all(c), words)
		}
		b := x.r + x.d + x.v
		from := []byte(b + "and what lies behind")
		p := pageOf(x.rows, len(x.c.R), x.enc, x.r, x.d, x.v)
		page.Decode(x.leaf, p, from[:len(b)], words[:len(x.words)])
		for n := range from {
			p.Crc, p.VLen = sum(string(from[:n])), max(0, n-p.RLen-p.DLen)
			page.Decode(x.leaf, p, from[:n], words[:len(x.words)])
		}
		if string(from) != b+"and what lies behind" || !slices.Equal(words, wasWords) {
			t.Errorf("Decode(%v, %x, %v) writes into its arguments: %x, %v", x.leaf, b, x.words, from, words)
		}
	}
}

// wipe clears a column, and the room behind its lists.
func wipe(c api.Column) {
	clear(c.R[:cap(c.R)])
	clear(c.D[:cap(c.D)])
	clear(c.V[:cap(c.V)])
}

func TestP2ResultsAreNew(t *testing.T) {
	for _, x := range printed {
		c, words := copied(x.c), slices.Clone(x.words)
		want := x.r + x.d + x.v
		p, b := page.Encode(x.leaf, c, x.rows, x.enc, words)
		_, again := page.Encode(x.leaf, c, x.rows, x.enc, words)
		wipe(c)
		clear(again[:cap(again)])
		if string(b) != want {
			t.Errorf("what Encode(%v, %v) answers changes with its arguments, or with another answer", x.leaf, x.c)
		}
		got, _ := page.Decode(x.leaf, p, b, words)
		other, _ := page.Decode(x.leaf, p, b, words)
		wipe(other)
		if string(b) != want || !slices.Equal(words, x.words) {
			t.Errorf("what Decode(%v, %x) answers shares memory with its arguments", x.leaf, want)
		}
		clear(b)
		clear(words)
		if !shred.Same(got, x.c) {
			t.Errorf("what Decode(%v, %x) answers changes with its arguments, or with another answer", x.leaf, want)
		}
		clear(got.R[:cap(got.R)])
		if !slices.Equal(got.D, x.c.D) {
			t.Errorf("the lists of what Decode(%v, %x) answers share memory", x.leaf, want)
		}
	}
}

// isPart tells whether the bytes of part are some of those of s.
func isPart(s, part string) bool {
	begin, at := uintptr(unsafe.Pointer(unsafe.StringData(s))), uintptr(unsafe.Pointer(unsafe.StringData(part)))
	return begin <= at && at < begin+uintptr(len(s))
}

func TestP2NothingIsKept(t *testing.T) {
	// Words may be parts of a great text, which they would keep.
	text := strings.Repeat("a great text ", 5)
	words := ss(text[2:7], text[:1], text[7:8])
	c := of("00 00 00 00", ss("great", " ", "a", "great")...)
	leaf := lf(0, 0, api.Bytes)
	p, b := page.Encode(leaf, c, 4, api.Dict, words)
	wantCells(t, leaf, p, string(b), words, c)
	got, _ := page.Decode(leaf, p, b, words)
	for _, v := range got.V {
		if isPart(text, v.S) {
			t.Errorf("%v lies in the text", v)
		}
	}
	for _, enc := range []int{api.Plain, api.Delta} {
		p, b := page.Encode(leaf, c, 4, enc, nil)
		got, _ := page.Decode(leaf, p, b, nil)
		for _, v := range got.V {
			if isPart(unsafe.String(&b[0], len(b)), v.S) {
				t.Errorf("%v lies in the bytes", v)
			}
		}
	}
}

func TestP3TheSameCalls(t *testing.T) {
	for range 3 {
		for _, x := range printed {
			p, b := pageOf(x.rows, len(x.c.R), x.enc, x.r, x.d, x.v), x.r+x.d+x.v
			wantEncoded(t, x.leaf, x.c, x.rows, x.enc, x.words, p, b)
			wantCells(t, x.leaf, p, b, x.words, x.c)
			p.Crc++
			wantError(t, x.leaf, p, b, x.words, api.ErrSum)
			p.Rows = 0
			wantError(t, x.leaf, p, b, x.words, api.ErrBad)
		}
	}
}

func TestP4NothingBesideAnError(t *testing.T) {
	// Levels, and values, were read ahead of the error.
	r, d := "\x03\x02", "\x03\x1a\x00"
	for _, x := range []struct {
		r, d, v string
		enc     int
	}{
		{r, "\x03\x1a", "", api.Plain},
		{r, d + "\x00", "", api.Plain},
		{r, "\x06\x03", "", api.Plain},
		{"\x06\x00", d, "", api.Plain},
		{r, d, "\x01\x00\x00\x00a\x65\x00\x00\x00", api.Plain},
		{r, d, "\x01\x00\x00\x00a\x01\x00\x00\x00bc", api.Plain},
		{r, d, "\x02\x00\x00a", api.Delta},
		{r, d, "\x02\x00\x00abc", api.Delta},
		{r, d, "\x02\x00\x02\x03", api.Dict},
		{r, d, "\x04\x00\x00", api.Dict},
	} {
		got, e := page.Decode(lf(1, 2, api.Bytes), pageOf(2, 3, x.enc, x.r, x.d, x.v), []byte(x.r+x.d+x.v), ss("a", "b", "c"))
		if e == api.OK || !shred.Same(got, api.Column{}) {
			t.Errorf("Decode(%x, %x, %x): %v, %v", x.r, x.d, x.v, got, e)
		}
	}
}

func TestP8NoPage(t *testing.T) {
	// What has no bytes that would be read as the same has no page.
	c := of("01 00 01", ns(5, 6)...)
	for _, enc := range append(strange, 3, 4, 256) {
		wantEncoded(t, lf(0, 1, api.Int64), c, 3, enc, ns(5, 6), api.Page{}, "")
	}
	for _, words := range [][]api.Value{nil, ns(5), ns(6), ns(5, 7), ns(7, 8), ss("5", "6")} {
		wantEncoded(t, lf(0, 1, api.Int64), c, 3, api.Dict, words, api.Page{}, "")
	}
}
