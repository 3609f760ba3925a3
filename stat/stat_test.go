package stat_test

import (
	"cmp"
	"fmt"
	"math"
	"slices"
	"strings"
	"testing"
	"unsafe"

	"shredder/api"
	"shredder/schema"
	"shredder/shred"
	"shredder/stat"
	"shredder/tree"
)

// kinds are those of leaves; ops are the comparisons; strange are numbers that are neither.
var (
	kinds   = []int{api.Bool, api.Int32, api.Int64, api.Bytes}
	ops     = []int{api.Lt, api.Le, api.Eq, api.Ge, api.Gt, api.Null}
	strange = []int{math.MinInt, math.MinInt + 1, -1 << 32, 1 - 1<<32, -256, -6, -2, -1, 6, 7, 8, 10, 11, 256, 1 << 32, 1<<32 + 1, 1<<32 + 5, 1 << 62, math.MaxInt - 1, math.MaxInt}
)

// ns, ss are values of numbers, of texts.
func ns(l ...int) (values []api.Value) {
	for _, n := range l {
		values = append(values, num(n))
	}
	return values
}

func ss(l ...string) (values []api.Value) {
	for _, s := range l {
		values = append(values, str(s))
	}
	return values
}

func num(n int) api.Value { return api.Value{N: n} }

func str(s string) api.Value { return api.Value{S: s} }

func y(n int) string { return strings.Repeat("y", n) }

// of is a column: digits are levels, R and D of a cell in turn, and v its values.
func of(levels string, v ...api.Value) (c api.Column) {
	for i, x := range []byte(strings.ReplaceAll(levels, " ", "")) {
		if i%2 == 0 {
			c.R = append(c.R, int(x-'0'))
		} else {
			c.D = append(c.D, int(x-'0'))
		}
	}
	c.V = v
	return c
}

// there is a column of a leaf of that D, each of whose cells has a value.
func there(d int, v ...api.Value) (c api.Column) {
	for range v {
		c.R, c.D = append(c.R, 0), append(c.D, d)
	}
	c.V = v
	return c
}

// known is what is known of cells of which some have no value, and the others are from least to greatest; nulls, where all have none.
func known(n int, least, greatest api.Value) api.Stat {
	return api.Stat{Nulls: n, Has: true, Min: least, Max: greatest}
}

func nulls(n int) api.Stat { return api.Stat{Nulls: n} }

// compare orders values of a kind.
func compare(kind int, a, b api.Value) int {
	if kind == api.Bytes {
		return cmp.Compare(a.S, b.S)
	}
	return cmp.Compare(a.N, b.N)
}

// sum is Of by its words.
func sum(leaf api.Leaf, c api.Column) (s api.Stat) {
	for _, d := range c.D {
		if d < leaf.D {
			s.Nulls++
		}
	}
	l := slices.Clone(c.V)
	slices.SortFunc(l, func(a, b api.Value) int { return compare(leaf.Kind, a, b) })
	if len(l) > 0 {
		s.Has, s.Min, s.Max = true, l[0], l[len(l)-1]
	}
	return s
}

// is tells whether a value is so.
func is(kind int, x api.Value, op int, v api.Value) bool {
	c := compare(kind, x, v)
	return op == api.Lt && c < 0 || op == api.Le && c <= 0 || op == api.Eq && c == 0 || op == api.Ge && c >= 0 || op == api.Gt && c > 0
}

// may is May by its words.
func may(kind int, s api.Stat, op int, v api.Value) bool {
	if op == api.Null {
		return s.Nulls > 0
	}
	if !s.Has {
		return false
	}
	switch op {
	case api.Lt, api.Le:
		return is(kind, s.Min, op, v)
	case api.Ge, api.Gt:
		return is(kind, s.Max, op, v)
	case api.Eq:
		return !is(kind, s.Min, api.Gt, v) && !is(kind, s.Max, api.Lt, v)
	}
	return false
}

// some are values of a kind, from the least to the greatest.
func some(kind int) []api.Value {
	switch kind {
	case api.Bool:
		return ns(0, 1)
	case api.Int32:
		return ns(math.MinInt32, math.MinInt32+1, -2, -1, 0, 1, 2, math.MaxInt32-1, math.MaxInt32)
	case api.Int64:
		return ns(math.MinInt64, math.MinInt64+1, -1<<33, -1<<31-1, -1, 0, 1, 1<<31, 1<<32+1, 1<<62, math.MaxInt64-1, math.MaxInt64)
	}
	return ss("", "\x00", "\x00\x00", "A", "a", "a\x00", "aa", "ab", "b", y(99), y(99)+"x", y(100), "\x7f", "\u00e9", "\xff", "\xff\xff")
}

// mix tells numbers in whose bits there is no order to be seen.
type mix uint64

const seed = mix(88172645463325252)

func (m *mix) below(n int) int {
	*m ^= *m << 13
	*m ^= *m >> 7
	*m ^= *m << 17
	return int(*m >> 1 % mix(n))
}

func pick[T any](m *mix, l ...T) T { return l[m.below(len(l))] }

// value makes one of a kind.
func (m *mix) value(kind int) api.Value {
	if kind == api.Bool || m.below(2) == 0 {
		return pick(m, some(kind)...)
	}
	if kind == api.Bytes {
		b := make([]byte, m.below(4))
		for i := range b {
			b[i] = pick[byte](m, 'a', 'b', 0, 0xff)
		}
		return str(string(b))
	}
	return num(m.below(2000) - 1000)
}

// column makes one of a leaf.
func (m *mix) column(leaf api.Leaf, cells int) (c api.Column) {
	for range cells {
		c.R, c.D = append(c.R, m.below(leaf.R+1)), append(c.D, m.below(leaf.D+1))
	}
	for _, d := range c.D {
		if d == leaf.D {
			c.V = append(c.V, m.value(leaf.Kind))
		}
	}
	return c
}

func (m *mix) leaf() api.Leaf {
	d := m.below(4)
	return api.Leaf{Field: 1 + m.below(9), R: m.below(d + 1), D: d, Kind: pick(m, kinds...)}
}

// behind is a column's cells, and another's behind them.
func behind(a, b api.Column) api.Column {
	return api.Column{R: slices.Concat(a.R, b.R), D: slices.Concat(a.D, b.D), V: slices.Concat(a.V, b.V)}
}

func wantStat(t *testing.T, leaf api.Leaf, c api.Column, want api.Stat) {
	t.Helper()
	if got := stat.Of(leaf, c); got != want {
		t.Errorf("Of(%v, %v): %v, want %v", leaf, c, got, want)
	}
}

func wantJoin(t *testing.T, kind int, a, b, want api.Stat) {
	t.Helper()
	if got := stat.Join(kind, a, b); got != want {
		t.Errorf("Join(%d, %v, %v): %v, want %v", kind, a, b, got, want)
	}
}

func wantMay(t *testing.T, kind int, s api.Stat, op int, v api.Value, want bool) {
	t.Helper()
	if got := stat.May(kind, s, op, v); got != want {
		t.Errorf("May(%d, %v, %d, %v): %v", kind, s, op, v, got)
	}
}

// wantOps holds a text of a 0 or a 1 for each comparison against what May says.
func wantOps(t *testing.T, kind int, s api.Stat, v api.Value, want string) {
	t.Helper()
	for i, op := range ops {
		wantMay(t, kind, s, op, v, want[i] == '1')
	}
}

func TestP1701Example(t *testing.T) {
	for _, kind := range kinds {
		for d := range 4 {
			wantStat(t, api.Leaf{R: d / 2, D: d, Kind: kind}, api.Column{}, api.Stat{})
			wantStat(t, api.Leaf{R: d / 2, D: d, Kind: kind}, api.Column{R: []int{}, D: []int{}, V: []api.Value{}}, api.Stat{})
		}
	}
}

func TestP1701OfValues(t *testing.T) {
	for _, x := range []struct {
		kind            int
		l               []api.Value
		least, greatest api.Value
	}{
		{api.Bool, ns(0), num(0), num(0)},
		{api.Bool, ns(1), num(1), num(1)},
		{api.Bool, ns(1, 1), num(1), num(1)},
		{api.Bool, ns(0, 1), num(0), num(1)},
		{api.Bool, ns(1, 0), num(0), num(1)},
		{api.Int32, ns(5, -7, 3), num(-7), num(5)},
		{api.Int32, ns(3, 3, 3), num(3), num(3)},
		{api.Int32, ns(2, 3), num(2), num(3)}, // 0 isn't among them
		{api.Int32, ns(-2, -3), num(-3), num(-2)},
		{api.Int32, ns(math.MaxInt32, math.MinInt32), num(math.MinInt32), num(math.MaxInt32)},
		{api.Int64, ns(1, 2, 3, 4), num(1), num(4)},
		{api.Int64, ns(4, 3, 2, 1), num(1), num(4)},
		{api.Int64, ns(2, 4, 1, 3), num(1), num(4)},
		{api.Int64, ns(math.MaxInt64, math.MinInt64), num(math.MinInt64), num(math.MaxInt64)}, // farther apart than a number tells
		{api.Int64, ns(math.MinInt64), num(math.MinInt64), num(math.MinInt64)},
		{api.Int64, ns(math.MaxInt64), num(math.MaxInt64), num(math.MaxInt64)},
		{api.Int64, ns(1<<32, 5, 1<<31), num(5), num(1 << 32)},
		{api.Bytes, ss(""), str(""), str("")},
		{api.Bytes, ss("b", "", "ab"), str(""), str("b")},
		{api.Bytes, ss("b", "ab"), str("ab"), str("b")}, // the empty one isn't among them
		{api.Bytes, ss("ab", "a", "abc"), str("a"), str("abc")},
		{api.Bytes, ss("b", "aaaa"), str("aaaa"), str("b")}, // how long they are says nothing
		{api.Bytes, ss("a", "Z", "\xff", "\u00e9"), str("Z"), str("\xff")},
		{api.Bytes, ss("\uffff", "\U00010000"), str("\uffff"), str("\U00010000")},
		{api.Bytes, ss("10", "9"), str("10"), str("9")},
		{api.Bytes, ss(y(100), y(99), y(99)+"z"), str(y(99)), str(y(99) + "z")},
	} {
		for d := range 3 {
			wantStat(t, api.Leaf{D: d, Kind: x.kind}, there(d, x.l...), known(0, x.least, x.greatest))
		}
	}
}

func TestP1701OfCellsWithoutValues(t *testing.T) {
	for _, x := range []struct {
		leaf api.Leaf
		c    api.Column
		want api.Stat
	}{
		{api.Leaf{D: 1, Kind: api.Bool}, of("00"), nulls(1)},
		{api.Leaf{D: 1, Kind: api.Bool}, of("00 00"), nulls(2)},
		{api.Leaf{D: 1, Kind: api.Int64}, of("00 01", num(7)), known(1, num(7), num(7))},
		{api.Leaf{D: 1, Kind: api.Int64}, of("01 00", num(-7)), known(1, num(-7), num(-7))}, // no 0 where there is none
		{api.Leaf{D: 1, Kind: api.Int64}, of("01 00 01 01", num(5), num(-7), num(3)), known(1, num(-7), num(5))},
		{api.Leaf{D: 1, Kind: api.Bytes}, of("00 01 00", str("b")), known(2, str("b"), str("b"))},
		{api.Leaf{D: 1, Kind: api.Bytes}, of("00 01", str("")), known(1, str(""), str(""))}, // an empty text is there
		{api.Leaf{D: 3, Kind: api.Int32}, of("00 01 02 03", num(4)), known(3, num(4), num(4))},
		{api.Leaf{D: 3, Kind: api.Int32}, of("00 01 02"), nulls(3)},
		{api.Leaf{R: 1, D: 1, Kind: api.Int32}, of("00 01 11 11 00", num(2), num(9), num(1)), known(2, num(1), num(9))},
		{api.Leaf{R: 2, D: 2, Kind: api.Bytes}, of("02 22 11 12 00 01 11", str("en-us"), str("en"), str("gb")), known(4, str("en"), str("gb"))},
		{api.Leaf{R: 1, D: 2, Kind: api.Bytes}, of("02 12 11 00 01 11", str("b"), str("a")), known(4, str("a"), str("b"))}, // R says nothing
	} {
		wantStat(t, x.leaf, x.c, x.want)
	}
}

func TestP1701OfRecords(t *testing.T) {
	s := api.Schema{
		{Name: "doc", Kids: 3},
		{Name: "id", Kind: api.Int64},
		{Name: "ok", Rep: api.Optional, Kind: api.Bool},
		{Name: "name", Rep: api.Repeated, Kids: 1},
		{Name: "url", Rep: api.Optional, Kind: api.Bytes},
	}
	record := func(id int, ok []api.Tree, names ...[]api.Tree) api.Tree {
		var l []api.Tree
		for _, urls := range names {
			l = append(l, api.Tree{Kids: [][]api.Tree{urls}})
		}
		return api.Tree{Kids: [][]api.Tree{{{N: id}}, ok, l}}
	}
	columns, e := shred.Columns(s, []api.Tree{
		record(7, nil, []api.Tree{{S: "http"}}),
		record(-8, []api.Tree{{N: 1}}),
		record(9, []api.Tree{{N: 1}}, nil, []api.Tree{{S: "ftp"}}, nil, []api.Tree{{S: ""}}),
	})
	if e != api.OK {
		t.Fatal(e)
	}
	leaves := schema.Leaves(s)
	wantStat(t, leaves[0], columns[0], known(0, num(-8), num(9)))
	wantStat(t, leaves[1], columns[1], known(1, num(1), num(1)))
	wantStat(t, leaves[2], columns[2], known(3, str(""), str("http")))
	for i, c := range columns {
		for from := range 4 {
			for to := from; to < 4; to++ {
				part := shred.Cut(c, leaves[i], from, to)
				wantStat(t, leaves[i], part, sum(leaves[i], part))
			}
		}
	}
}

func TestP1701OfAny(t *testing.T) {
	m := seed
	for range 5000 {
		leaf := m.leaf()
		c := m.column(leaf, m.below(9))
		wantStat(t, leaf, c, sum(leaf, c))
	}
	for range 20 {
		leaf := m.leaf()
		c := m.column(leaf, api.MaxCells)
		wantStat(t, leaf, c, sum(leaf, c))
	}
}

func TestP1701OfEachPlace(t *testing.T) {
	// The least and the greatest value are found wherever they stand.
	for _, kind := range kinds {
		l := some(kind)
		least, greatest := l[0], l[len(l)-1]
		for at := range 6 {
			for to := range 6 {
				values := slices.Repeat([]api.Value{l[len(l)/2]}, 6)
				values[at], values[to] = least, greatest
				wantStat(t, api.Leaf{D: 1, Kind: kind}, there(1, values...), sum(api.Leaf{D: 1, Kind: kind}, there(1, values...)))
			}
		}
	}
}

func TestP1701Join(t *testing.T) {
	a, b := known(2, num(3), num(8)), known(1, num(-3), num(5))
	for _, x := range []struct {
		kind       int
		a, b, want api.Stat
	}{
		{api.Int64, nulls(0), nulls(0), nulls(0)},
		{api.Int64, nulls(3), nulls(4), nulls(7)},
		{api.Int64, a, nulls(0), a},
		{api.Int64, a, nulls(4), known(6, num(3), num(8))}, // what isn't there is no 0
		{api.Int64, a, a, known(4, num(3), num(8))},
		{api.Int64, a, b, known(3, num(-3), num(8))},
		{api.Int64, known(0, num(1), num(9)), known(0, num(2), num(3)), known(0, num(1), num(9))},
		{api.Int64, known(0, num(1), num(2)), known(0, num(8), num(9)), known(0, num(1), num(9))},
		{api.Int64, known(0, num(-1), num(-1)), nulls(1), known(1, num(-1), num(-1))},
		{api.Int64, known(0, num(math.MinInt64), num(0)), known(0, num(1), num(math.MaxInt64)), known(0, num(math.MinInt64), num(math.MaxInt64))},
		{api.Int32, known(0, num(math.MaxInt32), num(math.MaxInt32)), known(5, num(math.MinInt32), num(math.MinInt32)), known(5, num(math.MinInt32), num(math.MaxInt32))},
		{api.Bool, known(0, num(1), num(1)), known(0, num(0), num(0)), known(0, num(0), num(1))},
		{api.Bool, known(0, num(1), num(1)), nulls(2), known(2, num(1), num(1))},
		{api.Bytes, known(0, str("a"), str("b")), nulls(1), known(1, str("a"), str("b"))},
		{api.Bytes, known(0, str("ab"), str("b")), known(1, str("a"), str("abc")), known(1, str("a"), str("b"))},
		{api.Bytes, known(0, str(""), str("")), known(0, str("\x00"), str("\xff")), known(0, str(""), str("\xff"))},
		{api.Bytes, known(0, str(y(100)), str(y(100))), known(0, str(y(99)), str(y(99))), known(0, str(y(99)), str(y(100)))},
	} {
		wantJoin(t, x.kind, x.a, x.b, x.want)
		wantJoin(t, x.kind, x.b, x.a, x.want)
	}
}

func TestP1701JoinIsOfAllCells(t *testing.T) {
	m := seed
	for range 3000 {
		leaf := m.leaf()
		a, b, c := m.column(leaf, m.below(5)), m.column(leaf, m.below(5)), m.column(leaf, m.below(5))
		x, y, z := stat.Of(leaf, a), stat.Of(leaf, b), stat.Of(leaf, c)
		wantJoin(t, leaf.Kind, x, y, sum(leaf, behind(a, b)))
		wantJoin(t, leaf.Kind, y, x, sum(leaf, behind(a, b)))
		wantJoin(t, leaf.Kind, stat.Join(leaf.Kind, x, y), z, sum(leaf, behind(behind(a, b), c)))
		wantJoin(t, leaf.Kind, x, stat.Join(leaf.Kind, y, z), sum(leaf, behind(behind(a, b), c)))
	}
}

func TestP1701May(t *testing.T) {
	// In their order: below, not above, equal, not below, above, not there.
	s := known(0, num(3), num(8))
	for v, want := range map[int]string{math.MinInt64: "000110", 2: "000110", 3: "011110", 4: "111110", 7: "111110", 8: "111100", 9: "110000", math.MaxInt64: "110000"} {
		wantOps(t, api.Int64, s, num(v), want)
		wantOps(t, api.Int64, known(1, s.Min, s.Max), num(v), want[:5]+"1")
	}
	s = known(0, num(4), num(4))
	for v, want := range map[int]string{3: "000110", 4: "011100", 5: "110000"} {
		wantOps(t, api.Int32, s, num(v), want)
	}
	s = known(7, num(math.MinInt64), num(math.MaxInt64))
	for v, want := range map[int]string{math.MinInt64: "011111", 0: "111111", math.MaxInt64: "111101"} {
		wantOps(t, api.Int64, s, num(v), want)
	}
	for v, want := range []string{"000110", "011100"} {
		wantOps(t, api.Bool, known(0, num(1), num(1)), num(v), want)
	}
	for v, want := range []string{"011110", "111100"} {
		wantOps(t, api.Bool, known(0, num(0), num(1)), num(v), want)
	}
	s = known(0, str("ab"), str("b"))
	for v, want := range map[string]string{"": "000110", "a": "000110", "aa": "000110", "ab": "011110", "ab\x00": "111110", "ac": "111110", "az": "111110", "b": "111100", "b\x00": "110000", "c": "110000", "\xff": "110000"} {
		wantOps(t, api.Bytes, s, str(v), want)
	}
	wantOps(t, api.Bytes, known(0, str(""), str("")), str(""), "011100")
	wantOps(t, api.Bytes, known(0, str(""), str("")), str("a"), "110000")
}

func TestP1701MayOfNoValues(t *testing.T) {
	for _, kind := range kinds {
		for _, v := range some(kind) {
			wantOps(t, kind, api.Stat{}, v, "000000")
			wantOps(t, kind, nulls(1), v, "000001")
			wantOps(t, kind, nulls(4000), v, "000001")
		}
	}
}

func TestP1701MayOfOtherOps(t *testing.T) {
	for _, kind := range kinds {
		for _, v := range some(kind) {
			for _, op := range strange {
				wantMay(t, kind, known(3, v, v), op, v, false)
				wantMay(t, kind, known(3, some(kind)[0], v), op, v, false)
				wantMay(t, kind, nulls(3), op, v, false)
			}
		}
	}
}

func TestP1701MayByTheWords(t *testing.T) {
	for _, kind := range kinds {
		for i, least := range some(kind) {
			for _, greatest := range some(kind)[i:] {
				for _, v := range some(kind) {
					for _, op := range append(ops, strange...) {
						for n := range 2 {
							s := known(n, least, greatest)
							wantMay(t, kind, s, op, v, may(kind, s, op, v))
						}
					}
				}
			}
		}
	}
}

func TestP1701Same(t *testing.T) {
	a := known(2, num(3), num(8))
	all := []api.Stat{
		{}, nulls(1), nulls(2), nulls(math.MaxInt), known(0, num(0), num(0)), known(2, num(0), num(0)),
		a, known(3, num(3), num(8)), known(2, num(2), num(8)), known(2, num(3), num(9)), known(2, num(3), num(8+1<<32)), known(2, num(-3), num(8)),
		{Nulls: 2, Min: num(3), Max: num(8)}, // any two
		known(0, str("a"), str("b")), known(0, str("a"), str("bb")), known(0, str(""), str("b")), known(0, str("a"), str("B")), known(0, str("a"), str("")),
		known(0, str("\xff"), str("\xff")), known(0, str("\ufffd"), str("\xff")), known(0, str("\xff"), str("\ufffd")),
		known(0, api.Value{N: 1, S: "a"}, str("b")), known(0, str("a"), api.Value{N: 1, S: "b"}),
	}
	for i, a := range all {
		for k, b := range all {
			b.Min.S, b.Max.S = strings.Clone(b.Min.S), strings.Clone(b.Max.S)
			if got := stat.Same(a, b); got != (i == k) {
				t.Errorf("Same(%v, %v): %v", a, b, got)
			}
		}
	}
	m := seed
	for range 2000 {
		leaf := m.leaf()
		c := m.column(leaf, m.below(4))
		d := m.column(leaf, m.below(4))
		a, b := sum(leaf, c), sum(leaf, d)
		if stat.Same(a, b) != (a == b) || !stat.Same(stat.Of(leaf, c), a) {
			t.Errorf("%v, %v", a, b)
		}
	}
}

// wantSound holds May against each cell: where one is so, it says yes.
func wantSound(t *testing.T, leaf api.Leaf, s api.Stat, c api.Column, op int, v api.Value) {
	t.Helper()
	some := op == api.Null && slices.ContainsFunc(c.D, func(d int) bool { return d < leaf.D })
	for _, x := range c.V {
		some = some || is(leaf.Kind, x, op, v)
	}
	if some && !stat.May(leaf.Kind, s, op, v) {
		t.Errorf("May(%d, %v, %d, %v) says no of the cells %v", leaf.Kind, s, op, v, c)
	}
	// Where there is one cell, or none, it says no else.
	if !some && len(c.D) < 2 && stat.May(leaf.Kind, s, op, v) {
		t.Errorf("May(%d, %v, %d, %v) says yes of the cells %v", leaf.Kind, s, op, v, c)
	}
}

func TestP1702AllSmallColumns(t *testing.T) {
	for _, kind := range kinds {
		leaf := api.Leaf{D: 1, Kind: kind}
		values := some(kind)
		cells := []api.Column{of("00")} // each of which is one
		for _, v := range values {
			cells = append(cells, there(1, v))
		}
		columns := append([]api.Column{{}}, cells...)
		for _, a := range cells {
			for _, b := range cells {
				columns = append(columns, behind(a, b))
			}
		}
		for _, c := range columns {
			for _, v := range values {
				for _, op := range ops {
					wantSound(t, leaf, stat.Of(leaf, c), c, op, v)
				}
			}
		}
	}
}

func TestP1702AnyColumns(t *testing.T) {
	m := seed
	for range 5000 {
		leaf := m.leaf()
		a, b := m.column(leaf, m.below(6)), m.column(leaf, m.below(6))
		all := behind(a, b)
		for range 5 {
			op, v := pick(&m, ops...), m.value(leaf.Kind)
			if len(all.V) > 0 && m.below(2) == 0 {
				v = pick(&m, all.V...)
			}
			wantSound(t, leaf, stat.Of(leaf, a), a, op, v)
			wantSound(t, leaf, stat.Join(leaf.Kind, stat.Of(leaf, a), stat.Of(leaf, b)), all, op, v)
		}
	}
}

func TestP1AnyArguments(t *testing.T) {
	m := seed
	number := func() int { return pick(&m, append(strange, 0, 1, 2, 3, 4, 5)...) }
	value := func() api.Value {
		return api.Value{N: number(), S: pick(&m, "", "a", "\xff", strings.Repeat("y", 5000))}
	}
	numbers := func() (l []int) {
		for range m.below(5) {
			l = append(l, number())
		}
		return l
	}
	for range 20000 {
		c := api.Column{R: numbers(), D: numbers()}
		for range m.below(5) {
			c.V = append(c.V, value())
		}
		leaf := api.Leaf{Field: number(), R: number(), D: number(), Kind: number()}
		s := stat.Of(leaf, c)
		other := api.Stat{Nulls: number(), Has: m.below(2) == 0, Min: value(), Max: value()}
		both := stat.Join(number(), s, other)
		stat.May(number(), both, number(), value())
		if !stat.Same(s, s) || stat.Same(s, both) != stat.Same(both, s) {
			t.Errorf("Same(%v, %v)", s, both)
		}
	}
}

func TestP1GreatColumns(t *testing.T) {
	leaf := api.Leaf{D: 1, Kind: api.Bytes}
	c := api.Column{D: make([]int, 1<<20), V: slices.Repeat(ss(y(1<<14), y(1<<14)+"z"), 1<<9)}
	for i := range c.V {
		c.D[i] = 1
	}
	if got := stat.Of(leaf, c); got.Nulls != 1<<20-1<<10 || len(got.Min.S) != 1<<14 || len(got.Max.S) != 1<<14+1 {
		t.Errorf("%d cells without a value, %d and %d bytes", got.Nulls, len(got.Min.S), len(got.Max.S))
	}
}

func TestP2ArgumentsAreLeft(t *testing.T) {
	c := of("01 00 01 01 00 09", num(5), num(-7), num(3), num(-99))
	part := api.Column{R: c.R[:4], D: c.D[:4], V: c.V[:3]}
	wantStat(t, api.Leaf{D: 1, Kind: api.Int64}, part, known(1, num(-7), num(5)))
	for _, kind := range kinds {
		stat.Of(api.Leaf{D: 1, Kind: kind}, part)
		stat.Of(api.Leaf{D: 0, Kind: kind}, part)
		stat.Of(api.Leaf{D: 1, Kind: kind}, c)
	}
	if got := fmt.Sprint(c); got != fmt.Sprint(of("01 00 01 01 00 09", num(5), num(-7), num(3), num(-99))) {
		t.Errorf("the column was changed: %s", got)
	}
}

// isPart tells whether the bytes of part are some of those of s.
func isPart(s, part string) bool {
	begin, at := uintptr(unsafe.Pointer(unsafe.StringData(s))), uintptr(unsafe.Pointer(unsafe.StringData(part)))
	return begin <= at && at < begin+uintptr(len(s))
}

func TestP2NothingIsKept(t *testing.T) {
	// Values may be parts of a great text, which they would keep.
	text := strings.Repeat("a great text ", 5)
	leaf := api.Leaf{D: 0, Kind: api.Bytes}
	c := there(0, str(text[2:7]), str(text[4:5]), str(text[8:9]))
	want := known(0, str("e"), str("t"))
	wantStat(t, leaf, c, want)
	parts := known(0, str(text[4:5]), str(text[8:9]))
	wantJoin(t, api.Bytes, parts, nulls(1), known(1, str("e"), str("t")))
	for i, s := range []api.Stat{stat.Of(leaf, c), stat.Of(leaf, there(0, str(text))), stat.Join(api.Bytes, parts, nulls(1)), stat.Join(api.Bytes, nulls(1), parts), stat.Join(api.Bytes, parts, parts), stat.Join(api.Bytes, parts, stat.Of(leaf, c))} {
		if isPart(text, s.Min.S) || isPart(text, s.Max.S) {
			t.Errorf("%d: %v lies in the text", i, s)
		}
		if isPart(s.Min.S, s.Max.S) {
			t.Errorf("%d: the values of %v share memory", i, s)
		}
	}
	// What is known stays as it is when the column changes.
	numbers := there(1, ns(3, 4)...)
	s := stat.Of(api.Leaf{D: 1, Kind: api.Int64}, numbers)
	clear(numbers.V)
	clear(numbers.D)
	if s != known(0, num(3), num(4)) {
		t.Errorf("%v changed with the column", s)
	}
}

func TestP3TheSameCalls(t *testing.T) {
	leaf, c := api.Leaf{D: 1, Kind: api.Int64}, of("01 00 01", num(5), num(-7))
	s := known(1, num(-7), num(5))
	for range 3 {
		wantStat(t, leaf, c, s)
		wantStat(t, leaf, api.Column{}, api.Stat{})
		wantJoin(t, api.Int64, s, s, known(2, num(-7), num(5)))
		wantMay(t, api.Int64, s, api.Lt, num(-7), false)
		wantMay(t, api.Int64, s, api.Null, num(-7), true)
		if !stat.Same(s, s) || stat.Same(s, api.Stat{}) {
			t.Error("Same")
		}
	}
}

func TestP4NothingWhereThereAreNoValues(t *testing.T) {
	m := seed
	for range 2000 {
		leaf := m.leaf()
		a, b := stat.Of(leaf, m.column(leaf, m.below(3))), stat.Of(leaf, m.column(leaf, m.below(3)))
		for _, s := range []api.Stat{a, b, stat.Join(leaf.Kind, a, b)} {
			isText := leaf.Kind == api.Bytes
			if !s.Has && (s.Min != api.Value{} || s.Max != api.Value{}) || isText && (s.Min.N != 0 || s.Max.N != 0) || !isText && s.Min.S+s.Max.S != "" {
				t.Errorf("%v: %v", leaf, s)
			}
		}
	}
}

func TestP1701AsRecordsAreCompared(t *testing.T) {
	// The order of values is that of tree.Compare.
	for _, kind := range kinds {
		for _, a := range some(kind) {
			for _, b := range some(kind) {
				want := known(0, a, b)
				if tree.Compare(kind, a, b) > 0 {
					want = known(0, b, a)
				}
				wantStat(t, api.Leaf{Kind: kind}, there(0, a, b), want)
			}
		}
	}
}
