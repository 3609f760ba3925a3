package assemble_test

import (
	"fmt"
	"math"
	"slices"
	"strings"
	"testing"
	"unsafe"

	"shredder/api"
	"shredder/assemble"
	"shredder/schema"
	"shredder/shred"
	"shredder/tree"
)

// leaf, group tell fields as they lie in a schema: a group's own ones behind it.
func leaf(name string, rep, kind int) api.Schema {
	return api.Schema{{Name: name, Rep: rep, Kind: kind}}
}

func group(name string, rep int, inside ...api.Schema) api.Schema {
	s := api.Schema{{Name: name, Rep: rep, Kind: api.Group, Kids: len(inside)}}
	for _, x := range inside {
		s = append(s, x...)
	}
	return s
}

func root(inside ...api.Schema) api.Schema { return group("m", api.Required, inside...) }

// paper has groups side by side and in one another, of every Rep, and leaves of every kind.
func paper() api.Schema {
	return group("doc", api.Required,
		leaf("id", api.Required, api.Int64),
		group("links", api.Optional,
			leaf("back", api.Repeated, api.Int64),
			leaf("fore", api.Repeated, api.Int32)),
		group("name", api.Repeated,
			group("lang", api.Repeated,
				leaf("code", api.Required, api.Bytes),
				leaf("land", api.Optional, api.Bytes)),
			leaf("url", api.Optional, api.Bytes)),
		leaf("old", api.Optional, api.Bool))
}

// n, x, g are values: numbers, strings, and a group with what is there of each of its fields.
func n(l ...int) (t []api.Tree) {
	for _, v := range l {
		t = append(t, api.Tree{N: v})
	}
	return t
}

func x(l ...string) (t []api.Tree) {
	for _, v := range l {
		t = append(t, api.Tree{S: v})
	}
	return t
}

func g(fields ...[]api.Tree) api.Tree { return api.Tree{Kids: fields} }

// some are trees as a list.
func some(l ...api.Tree) []api.Tree { return l }

// prints are records of paper.
func prints() []api.Tree {
	return some(
		g(n(10),
			some(g(nil, n(20, 40))),
			some(
				g(some(g(x("en-us"), x("us")), g(x("en"), nil)), x("a")),
				g(nil, x("")),
				g(some(g(x(""), x(""))), nil)),
			n(1)),
		g(n(-7), nil, nil, nil),
		g(n(0), some(g(n(math.MinInt64), nil)), some(g(nil, nil), g(nil, nil)), n(0)))
}

// of is a column: digits are levels, R and D of a cell in turn, and v its values.
func of(levels string, v ...api.Value) (c api.Column) {
	for i, x := range []byte(strings.ReplaceAll(levels, " ", "")) {
		if i%2 == 0 {
			c.R = append(c.R, int(x-'0'))
		} else {
			c.D = append(c.D, int(x-'0'))
		}
	}
	c.V = v
	return c
}

func num(n int) api.Value { return api.Value{N: n} }

func str(s string) api.Value { return api.Value{S: s} }

// printed are the columns of prints.
func printed() []api.Column {
	return []api.Column{
		of("00 00 00", num(10), num(-7), num(0)),
		of("01 00 02", num(math.MinInt64)),
		of("02 12 00 01", num(20), num(40)),
		of("02 22 11 12 00 01 11", str("en-us"), str("en"), str("")),
		of("03 22 11 13 00 01 11", str("us"), str("")),
		of("02 12 11 00 01 11", str("a"), str("")),
		of("01 00 01", num(1), num(0)),
	}
}

// copied shares nothing with columns.
func copied(l []api.Column) (all []api.Column) {
	for _, c := range l {
		all = append(all, api.Column{R: slices.Clone(c.R), D: slices.Clone(c.D), V: slices.Clone(c.V)})
	}
	return all
}

// past is where the field behind one and all in it is.
func past(s api.Schema, at int) int {
	next := at + 1
	for range s[at].Kids {
		next = past(s, next)
	}
	return next
}

// spot is a cell: its levels, and its value, if it has one.
type spot struct {
	r, d int
	v    []api.Value
}

// spotsOf are a column's, where each value has a cell, and each cell that ought to has a value.
func spotsOf(c api.Column, full int) (all []spot, ok bool) {
	if len(c.R) != len(c.D) {
		return nil, false
	}
	used := 0
	for i := range c.R {
		p := spot{r: c.R[i], d: c.D[i]}
		if p.d == full {
			if used == len(c.V) {
				return nil, false
			}
			p.v = c.V[used : used+1]
			used++
		}
		all = append(all, p)
	}
	return all, used == len(c.V)
}

// parts divides cells at those of an R. None but the first one has a lower R.
func parts(cells []spot, r int) (all [][]spot, ok bool) {
	for i, p := range cells {
		switch {
		case i == 0 || p.r == r:
			all = append(all, nil)
		case p.r < r:
			return nil, false
		}
		all[len(all)-1] = append(all[len(all)-1], p)
	}
	return all, true
}

// joined is what Records ought to tell, from above: it divides all cells among the records, each record's among its fields, and each field's among its values.
func joined(s api.Schema, l []api.Column, many int) (records []api.Tree, ok bool) {
	cells := make([][]spot, len(l))
	for i, leaf := range schema.Leaves(s) {
		if cells[i], ok = spotsOf(l[i], leaf.D); !ok || len(cells[i]) > 0 && cells[i][0].r != 0 || len(cells[i]) > 4000 {
			return nil, false
		}
	}
	for k := range many {
		one := make([][]spot, len(l))
		for i := range cells {
			each, ok := parts(cells[i], 0)
			if !ok || len(each) != many {
				return nil, false
			}
			one[i] = each[k]
		}
		t, ok := value(s, 0, one, 0, 0)
		if !ok || tree.Fits(s, t) != api.OK {
			return nil, false
		}
		records = append(records, t)
	}
	return records, many > 0 || !slices.ContainsFunc(cells, func(c []spot) bool { return len(c) > 0 })
}

// value is one of the field at a place, of the cells of the leaves in it, where r and d of the fields on the way to it and itself are there.
func value(s api.Schema, at int, cells [][]spot, r, d int) (t api.Tree, ok bool) {
	if s[at].Kind != api.Group {
		p := cells[0][0]
		if len(cells[0]) != 1 || p.d != d {
			return t, false
		}
		return api.Tree{N: p.v[0].N, S: p.v[0].S}, true
	}
	kid, used := at+1, 0
	for range s[at].Kids {
		next := past(s, kid)
		leaves := 0
		for _, f := range s[kid:next] {
			if f.Kind != api.Group {
				leaves++
			}
		}
		l, ok := list(s, kid, cells[used:used+leaves], r, d)
		if !ok {
			return t, false
		}
		t.Kids = append(t.Kids, l)
		kid, used = next, used+leaves
	}
	return t, true
}

// list is all that is there of the field at a place in one group.
func list(s api.Schema, at int, cells [][]spot, r, d int) (l []api.Tree, ok bool) {
	if s[at].Rep != api.Required {
		isMissing := func(c []spot) bool { return len(c) == 1 && c[0].d == d }
		if !slices.ContainsFunc(cells, func(c []spot) bool { return !isMissing(c) }) {
			return nil, true
		}
		d++
	}
	if s[at].Rep != api.Repeated {
		t, ok := value(s, at, cells, r, d)
		return some(t), ok
	}
	r++
	divided := make([][][]spot, len(cells))
	for i := range cells {
		if divided[i], ok = parts(cells[i], r); !ok || len(divided[i]) != len(divided[0]) {
			return nil, false
		}
	}
	for k := range divided[0] {
		one := make([][]spot, len(cells))
		for i := range cells {
			one[i] = divided[i][k]
		}
		t, ok := value(s, at, one, r, d)
		if !ok {
			return nil, false
		}
		l = append(l, t)
	}
	return l, true
}

// mix tells numbers in whose bits there is no order to be seen.
type mix uint64

const seed = mix(88172645463325252)

func (m *mix) below(n int) int {
	*m ^= *m << 13
	*m ^= *m >> 7
	*m ^= *m << 17
	return int(*m >> 1 % mix(n))
}

func pick[T any](m *mix, l ...T) T { return l[m.below(len(l))] }

// fields makes a group of at least one field: at most room in all, no deeper than depth says.
func (m *mix) fields(depth, room int) (list []api.Schema) {
	for room > 0 && (len(list) == 0 || m.below(4) > 0) {
		name := fmt.Sprint("a", len(list))
		f := leaf(name, m.below(3), 1+m.below(4))
		if depth > 1 && room > 1 && m.below(2) == 0 {
			f = group(name, m.below(3), m.fields(depth-1, room-1)...)
		}
		list, room = append(list, f), room-len(f)
	}
	return list
}

func (m *mix) schema() api.Schema { return root(m.fields(api.MaxDepth, api.MaxFields-1)...) }

// small is a schema of few fields, whose columns are soon right again if they are changed.
func (m *mix) small() api.Schema { return root(m.fields(4, 1+m.below(6))...) }

// value makes one of the field at a place.
func (m *mix) value(s api.Schema, at int) (t api.Tree) {
	switch s[at].Kind {
	case api.Group:
	case api.Bytes:
		return api.Tree{S: strings.Repeat(pick(m, "y", "\xff", "\u00e9"), pick(m, 0, 1, 2, 50))}
	case api.Bool:
		return api.Tree{N: m.below(2)}
	case api.Int32:
		return api.Tree{N: pick(m, math.MinInt32, -1, 0, 1, math.MaxInt32)}
	default:
		return api.Tree{N: pick(m, math.MinInt64, -1, 0, 1, math.MaxInt64)}
	}
	kid := at + 1
	for range s[at].Kids {
		l := make([]api.Tree, []int{1, m.below(2), m.below(4)}[s[kid].Rep])
		for k := range l {
			l[k] = m.value(s, kid)
		}
		t.Kids = append(t.Kids, l)
		kid = past(s, kid)
	}
	return t
}

func (m *mix) records(s api.Schema, many int) (l []api.Tree) {
	for range many {
		l = append(l, m.value(s, 0))
	}
	return l
}

// spoil changes columns in one place.
func (m *mix) spoil(l []api.Column) {
	c := &l[m.below(len(l))]
	levels := pick(m, &c.R, &c.D)
	if len(c.R) == 0 || len(c.D) == 0 || len(c.V) == 0 && m.below(2) == 0 {
		*c = of("00")
		return
	}
	at := m.below(min(len(c.R), len(c.D)))
	switch m.below(10) {
	case 0, 1:
		(*levels)[at] += pick(m, -1, 1)
	case 2:
		(*levels)[at] = pick(m, math.MinInt, -1, 0, 1, 2, 9, math.MaxInt)
	case 3:
		*levels = slices.Delete(*levels, at, at+1)
	case 4:
		c.R, c.D = slices.Delete(c.R, at, at+1), slices.Delete(c.D, at, at+1)
	case 5:
		c.R, c.D = slices.Insert(c.R, at, m.below(3)), slices.Insert(c.D, at, m.below(3))
	case 6:
		c.V = append(c.V, api.Value{})
	case 7:
		if len(c.V) > 0 {
			c.V = c.V[1:]
		}
	case 8:
		for i := range c.V {
			c.V[i] = pick(m, c.V[i], num(1), num(2), num(1<<31), str(""), str("a"), str(strings.Repeat("z", 101)))
		}
	case 9:
		*c = pick(m, l...)
	}
}

// columnsOf are those of records.
func columnsOf(t *testing.T, s api.Schema, l []api.Tree) []api.Column {
	t.Helper()
	columns, e := shred.Columns(s, l)
	if e != api.OK {
		t.Fatalf("Columns(%v, %v): %v", s, l, e)
	}
	return columns
}

// shown are columns in words, where they are not too great to be read.
func shown(l []api.Column) string {
	room := 500
	for _, c := range l {
		room -= 1 + len(c.R) + len(c.D)
		for _, v := range c.V {
			room -= 1 + len(v.S)
		}
	}
	if room < 0 {
		return fmt.Sprint(len(l), " great columns")
	}
	return fmt.Sprint(l)
}

func wantRecords(t *testing.T, s api.Schema, l []api.Column, want []api.Tree) {
	t.Helper()
	got, e := assemble.Records(s, l, len(want))
	if e != api.OK || !slices.EqualFunc(got, want, tree.Same) {
		t.Errorf("Records(%v, %s, %d): %.500v, %v, want %.500v", s, shown(l), len(want), fmt.Sprint(got), e, fmt.Sprint(want))
	}
}

func wantError(t *testing.T, s api.Schema, l []api.Column, many int, want api.Errno) {
	t.Helper()
	if got, e := assemble.Records(s, l, many); e != want || got != nil {
		t.Errorf("Records(%.500v, %s, %d): %d records, %v, want %v", fmt.Sprint(s), shown(l), many, len(got), e, want)
	}
}

// wantBack takes records apart and asks for them: for as many, one fewer, and one more.
func wantBack(t *testing.T, s api.Schema, records []api.Tree) {
	t.Helper()
	l := columnsOf(t, s, records)
	wantRecords(t, s, l, records)
	for _, many := range []int{len(records) - 1, len(records) + 1} {
		if many >= 0 && many <= 200 {
			wantError(t, s, l, many, api.ErrBad)
		}
	}
}

// wantJoined asks for the records of any columns, as many as there are leaves, and tells whether there are such.
func wantJoined(t *testing.T, s api.Schema, l []api.Column, many int) bool {
	t.Helper()
	want, ok := joined(s, l, many)
	if ok {
		wantRecords(t, s, l, want)
	} else {
		wantError(t, s, l, many, api.ErrBad)
	}
	return ok
}

func TestP1601Example(t *testing.T) {
	wantRecords(t, paper(), make([]api.Column, 7), nil)
	for i := range 7 {
		l := make([]api.Column, 7)
		l[i] = printed()[i]
		wantError(t, paper(), l, 0, api.ErrBad)
	}
	wantError(t, paper(), make([]api.Column, 7), 1, api.ErrBad)
	wantError(t, paper(), printed(), 0, api.ErrBad)
	for _, c := range []api.Column{of("00"), {R: []int{0}}, {D: []int{0}}, {V: []api.Value{{}}}} {
		wantError(t, root(leaf("a", 1, api.Int64)), []api.Column{c}, 0, api.ErrBad)
	}
}

func TestP1601Paper(t *testing.T) {
	wantRecords(t, paper(), printed(), prints())
	for _, many := range []int{1, 2, 4, 5, 199, 200} {
		wantError(t, paper(), printed(), many, api.ErrBad)
	}
}

func TestP1601OneLeaf(t *testing.T) {
	for _, c := range []struct {
		rep  int
		c    api.Column
		want []api.Tree
	}{
		{api.Required, of("00", num(5)), some(g(n(5)))},
		{api.Required, of("00 00 00", num(5), num(0), num(5)), some(g(n(5)), g(n(0)), g(n(5)))},
		{api.Optional, of("00"), some(g(nil))},
		{api.Optional, of("01 00 01", num(5), num(6)), some(g(n(5)), g(nil), g(n(6)))},
		{api.Repeated, of("00"), some(g(nil))},
		{api.Repeated, of("01 11 11", num(5), num(5), num(6)), some(g(n(5, 5, 6)))},
		{api.Repeated, of("00 01 11 00 01", num(5), num(6), num(7)), some(g(nil), g(n(5, 6)), g(nil), g(n(7)))},
	} {
		wantRecords(t, root(leaf("a", c.rep, api.Int32)), []api.Column{c.c}, c.want)
	}
}

func TestP1601NothingIsNotNothing(t *testing.T) {
	// A group that is not there, one with nothing in it, and an empty string.
	s := root(group("p", 1, leaf("a", 1, api.Bytes)))
	wantRecords(t, s, []api.Column{of("00 01 02", str(""))}, some(g(nil), g(some(g(nil))), g(some(g(x(""))))))
	s = root(group("p", 2, group("q", 2, leaf("a", 2, api.Bytes))))
	p := func(l ...api.Tree) api.Tree { return g(l) }
	wantRecords(t, s, []api.Column{of("00 01 11 02 22 13 33 12 11", str(""), str(""))}, some(
		p(),
		p(p(), p()),
		p(p(p(), p()), p(g(x("", ""))), p(p()), p())))
}

func TestP1601FieldsBeside(t *testing.T) {
	s := root(
		group("p", 2, leaf("a", 2, api.Int64), leaf("b", 0, api.Int64), leaf("c", 1, api.Int64)),
		leaf("d", 2, api.Int64),
		group("q", 0, leaf("e", 1, api.Int64), group("r", 1, leaf("f", 0, api.Int64), leaf("h", 2, api.Int64)), leaf("i", 0, api.Int64)))
	wantRecords(t, s, []api.Column{
		of("02 22 11", num(1), num(2)),
		of("01 11", num(3), num(4)),
		of("01 12", num(5)),
		of("01 11", num(6), num(7)),
		of("01", num(8)),
		of("01", num(9)),
		of("02 12", num(10), num(11)),
		of("00", num(12)),
	}, some(g(
		some(g(n(1, 2), n(3), nil), g(nil, n(4), n(5))),
		n(6, 7),
		some(g(n(8), some(g(n(9), n(10, 11))), n(12))))))
}

func TestP1601CountsThatMayNotBe(t *testing.T) {
	s := root(leaf("a", 1, api.Bool))
	for _, many := range []int{0, 1, 199, 200} {
		c := api.Column{R: make([]int, many), D: make([]int, many)}
		wantRecords(t, s, []api.Column{c}, slices.Repeat(some(g(nil)), many))
	}
	for _, many := range []int{math.MinInt, -201, -1, 201, 202, 4000, 1 << 32, math.MaxInt} {
		c := api.Column{R: make([]int, 201), D: make([]int, 201)}
		wantError(t, s, []api.Column{c}, many, api.ErrArg)
		wantError(t, paper(), printed(), many, api.ErrArg)
		wantError(t, paper(), printed()[:6], many, api.ErrArg)
		wantError(t, paper(), make([]api.Column, 7), many, api.ErrArg) // nor are there such records
	}
	wantError(t, s, []api.Column{{R: make([]int, 201), D: make([]int, 201)}}, 200, api.ErrBad)
}

func TestP1601ColumnsOfOtherLeaves(t *testing.T) {
	for _, l := range [][]api.Column{nil, {}, printed()[:1], printed()[:6], printed()[1:], append(printed(), of("00")), append(printed(), api.Column{}), make([]api.Column, 10), make([]api.Column, 11), make([]api.Column, 5000)} {
		for _, many := range []int{0, 1, 3, 200} {
			wantError(t, paper(), l, many, api.ErrArg)
		}
	}
	// A count that may not be is told though the cells are bad too.
	wantError(t, paper(), slices.Repeat([]api.Column{{R: []int{-1}, D: []int{9, 9}}}, 6), 3, api.ErrArg)
	wantError(t, paper(), slices.Repeat([]api.Column{{R: []int{-1}, D: []int{9, 9}}}, 7), 201, api.ErrArg)
	wantError(t, paper(), slices.Repeat([]api.Column{{R: []int{-1}, D: []int{9, 9}}}, 7), 3, api.ErrBad)
}

func TestP1601EachLevelIsHeld(t *testing.T) {
	// Each level of each cell, in turn, as each other number.
	changed := 0
	for i, c := range printed() {
		for k := range c.R {
			for _, level := range []int{math.MinInt, -1 << 32, -2, -1, 0, 1, 2, 3, 4, 5, 7, 1 << 32, 1<<32 + 1, math.MaxInt} {
				if level != c.R[k] {
					l := printed()
					l[i].R[k] = level
					wantJoined(t, paper(), l, 3)
				}
				if level != c.D[k] {
					l := printed()
					l[i].D[k] = level
					if wantJoined(t, paper(), l, 3) {
						t.Errorf("%v: the D of another value", l)
					}
					changed++
				}
			}
		}
	}
	if changed < 400 {
		t.Errorf("only %d changes", changed)
	}
}

func TestP1601CellsAndValuesTooFewTooMany(t *testing.T) {
	for i, c := range printed() {
		for k := range c.R {
			for _, spoil := range []func(x *api.Column){
				func(x *api.Column) { x.R = x.R[:k] },
				func(x *api.Column) { x.D = x.D[:k] },
				func(x *api.Column) { x.R, x.D = x.R[:k], x.D[:k] },
				func(x *api.Column) { x.R = append(x.R, x.R[k]) },
				func(x *api.Column) { x.D = append(x.D, x.D[k]) },
				func(x *api.Column) { x.R, x.D = append(x.R, x.R[k]), append(x.D, x.D[k]) },
			} {
				l := printed()
				spoil(&l[i])
				wantError(t, paper(), l, 3, api.ErrBad)
			}
		}
		for k := range c.V {
			l := printed()
			l[i].V = slices.Delete(l[i].V, k, k+1)
			wantError(t, paper(), l, 3, api.ErrBad)
			l = printed()
			l[i].V = slices.Insert(l[i].V, k, c.V[k])
			wantError(t, paper(), l, 3, api.ErrBad)
		}
		l := printed()
		l[i] = api.Column{}
		wantError(t, paper(), l, 3, api.ErrBad)
		l[i] = api.Column{V: c.V}
		wantError(t, paper(), l, 3, api.ErrBad)
	}
}

func TestP1601ColumnsThatDoNotGoTogether(t *testing.T) {
	// Each column alone is that of records, but they are not the same ones.
	two := root(group("p", 2, leaf("a", 1, api.Int64), leaf("b", 1, api.Int64)))
	a, b := of("02 11 12", num(1), num(2)), of("01 12 12", num(3), num(4))
	wantRecords(t, two, []api.Column{a, b}, some(g(some(g(n(1), nil), g(nil, n(3)), g(n(2), n(4))))))
	for _, other := range []api.Column{of("00"), of("01"), of("01 11"), of("01 11 11 11"), of("01 11 01"), of("00 01 11"), of("01 11 11 00")} {
		wantError(t, two, []api.Column{a, other}, 1, api.ErrBad)
		wantError(t, two, []api.Column{other, b}, 1, api.ErrBad)
		wantError(t, two, []api.Column{a, other}, 2, api.ErrBad)
		wantError(t, two, []api.Column{other, b}, 2, api.ErrBad)
	}
	// A group is there for one of its leaves only.
	there := root(group("p", 1, leaf("a", 1, api.Int64), leaf("b", 0, api.Int64)))
	wantRecords(t, there, []api.Column{of("01 00"), of("01 00", num(7))}, some(g(some(g(nil, n(7)))), g(nil)))
	wantError(t, there, []api.Column{of("00"), of("01", num(7))}, 1, api.ErrBad)
	wantError(t, there, []api.Column{of("01"), of("00")}, 1, api.ErrBad)
	wantError(t, there, []api.Column{of("02", num(7)), of("00")}, 1, api.ErrBad)
	// The values of an outer and an inner group are as many, but divided in another way.
	deep := root(group("p", 2, group("q", 2, leaf("a", 0, api.Bool)), leaf("b", 0, api.Bool)))
	wantRecords(t, deep, []api.Column{of("02 22 12", num(0), num(1), num(0)), of("01 11", num(1), num(0))}, some(g(some(g(some(g(n(0)), g(n(1))), n(1)), g(some(g(n(0))), n(0))))))
	wantError(t, deep, []api.Column{of("02 22 22", num(0), num(1), num(0)), of("01 11", num(1), num(0))}, 1, api.ErrBad)
	wantError(t, deep, []api.Column{of("02 12 12", num(0), num(1), num(0)), of("01 11", num(1), num(0))}, 1, api.ErrBad)
}

func TestP1601ValuesThatMayNotBe(t *testing.T) {
	over := []int{math.MinInt, math.MinInt32 - 1, math.MaxInt32 + 1, 1 << 32, 1<<32 + 1, math.MaxInt}
	long := strings.Repeat("\x00", 100)
	for kind, v := range map[int]struct{ good, bad []api.Value }{
		api.Bool:  {[]api.Value{num(0), num(1)}, []api.Value{num(2), num(-1), num(256), str("a"), {N: 1, S: "\x00"}}},
		api.Int32: {[]api.Value{num(math.MinInt32), num(math.MaxInt32), num(0)}, []api.Value{str("a"), {N: 1, S: "1"}}},
		api.Int64: {[]api.Value{num(math.MinInt), num(math.MaxInt), num(0)}, []api.Value{str("a"), {N: 1, S: "1"}}},
		api.Bytes: {[]api.Value{str(""), str("a"), str(long)}, []api.Value{num(1), num(-1), {N: 1, S: "a"}, str(long + "a"), str(long + long)}},
	} {
		if kind == api.Bool || kind == api.Int32 {
			for _, n := range over {
				v.bad = append(v.bad, num(n))
			}
		}
		for rep := range 3 {
			s := root(leaf("a", rep, kind))
			column := func(l ...api.Value) []api.Column {
				c := api.Column{R: make([]int, len(l)), D: make([]int, len(l)), V: l}
				for i := range c.D {
					c.D[i] = min(rep, 1)
				}
				return []api.Column{c}
			}
			for _, good := range v.good {
				wantRecords(t, s, column(good), some(g(some(api.Tree{N: good.N, S: good.S}))))
				for _, bad := range v.bad {
					wantError(t, s, column(bad), 1, api.ErrBad)
					wantError(t, s, column(good, bad, good), 3, api.ErrBad)
				}
			}
		}
	}
}

// repeated is a column of a leaf that is repeated so many times in each of so many records.
func repeated(times, records int) (c api.Column) {
	for range records {
		for k := range times {
			c.R, c.D, c.V = append(c.R, min(k, 1)), append(c.D, 1), append(c.V, num(0))
		}
	}
	return c
}

func TestP1601TooMany(t *testing.T) {
	s := root(leaf("a", 2, api.Bool))
	for _, times := range []int{1, 49, 50} {
		wantRecords(t, s, []api.Column{repeated(times, 3)}, slices.Repeat(some(g(n(make([]int, times)...))), 3))
	}
	for _, times := range []int{51, 52, 100, 1000, 4000} {
		wantError(t, s, []api.Column{repeated(times, 1)}, 1, api.ErrBad)
	}
	// A column has at most 4000 cells: 80 records of 50, 200 of 20.
	for _, c := range []struct{ times, records int }{{50, 80}, {20, 200}} {
		wantRecords(t, s, []api.Column{repeated(c.times, c.records)}, slices.Repeat(some(g(n(make([]int, c.times)...))), c.records))
	}
	for _, c := range []struct{ times, records int }{{50, 81}, {50, 200}, {21, 200}} {
		wantError(t, s, []api.Column{repeated(c.times, c.records)}, c.records, api.ErrBad)
	}
	full := repeated(50, 80)
	more := api.Column{R: append(full.R, 0), D: append(full.D, 0), V: full.V}
	wantError(t, s, []api.Column{more}, 81, api.ErrBad)
	wantError(t, s, []api.Column{more}, 80, api.ErrBad)
	// The other column has room.
	s = append(root(leaf("b", 1, api.Bool), s[1:]), nil...)
	wantError(t, s, []api.Column{{R: make([]int, 81), D: make([]int, 81)}, more}, 81, api.ErrBad)
}

func TestP1601AnyColumns(t *testing.T) {
	m := seed
	good := 0
	for range 40000 {
		s := m.small()
		many := m.below(4)
		l := columnsOf(t, s, m.records(s, many))
		for range m.below(4) {
			m.spoil(l)
			l = copied(l)
		}
		if wantJoined(t, s, l, pick(&m, many, many, many, many+1, 0)) {
			good++
		}
	}
	if good < 8000 || good > 32000 {
		t.Errorf("%d of 40000 are columns of records", good)
	}
}

// levels are all columns of at most most cells, with R from -1 to r and D from -1 to d, and as many values as there ought to be.
func levels(most, r, d, full int) (l []api.Column) {
	l = append(l, api.Column{})
	for done := 0; most > 0; most-- {
		begun := len(l)
		for _, ahead := range l[done:begun] {
			for i := -1; i <= r; i++ {
				for k := -1; k <= d; k++ {
					c := copied([]api.Column{ahead})[0]
					c.R, c.D = append(c.R, i), append(c.D, k)
					if k == full {
						c.V = append(c.V, num(len(c.V)%2))
					}
					l = append(l, c)
				}
			}
		}
		done = begun
	}
	return l
}

func TestP1601AllSmallColumns(t *testing.T) {
	for name, c := range map[string]struct {
		s    api.Schema
		most int
	}{
		"required":             {root(leaf("a", 0, api.Bool)), 4},
		"optional":             {root(group("p", 1, leaf("a", 1, api.Bool))), 4},
		"repeated":             {root(leaf("a", 2, api.Bool)), 4},
		"repeated in optional": {root(group("p", 1, leaf("a", 2, api.Bool))), 4},
		"repeated in repeated": {root(group("p", 2, leaf("a", 2, api.Bool))), 3},
		"two":                  {root(leaf("a", 2, api.Bool), leaf("b", 1, api.Bool)), 2},
		"two in repeated":      {root(group("p", 2, leaf("a", 0, api.Bool), leaf("b", 1, api.Bool))), 2},
		"outer and inner":      {root(group("p", 2, leaf("a", 0, api.Bool), leaf("b", 2, api.Bool))), 2},
	} {
		leaves := schema.Leaves(c.s)
		good := 0
		first := levels(c.most, leaves[0].R+1, leaves[0].D+1, leaves[0].D)
		others := []api.Column{{}}
		if len(leaves) > 1 {
			others = levels(c.most, leaves[1].R, leaves[1].D, leaves[1].D)
		}
		for _, a := range first {
			for _, b := range others {
				l := []api.Column{a, b}[:len(leaves)]
				for many := range 3 {
					if wantJoined(t, c.s, l, many) {
						good++
					}
				}
			}
		}
		if good < 3 {
			t.Errorf("%s: only %d are columns of records", name, good)
		}
	}
}

func TestP1602Paper(t *testing.T) {
	wantBack(t, paper(), prints())
	wantBack(t, paper(), nil)
	for i, r := range prints() {
		wantBack(t, paper(), some(r))
		wantBack(t, paper(), slices.Repeat(some(r), 200))
		wantBack(t, paper(), append(prints(), prints()[i:]...))
	}
}

func TestP1602EveryChain(t *testing.T) {
	// A way of every few fields, each of every Rep, alone and beside others.
	m := seed
	for fields := 1; fields <= 5; fields++ {
		times := 1
		for range fields {
			times *= 3
		}
		for reps := range times {
			chain, wide := leaf("a", reps%3, api.Int64), leaf("a", reps%3, api.Int64)
			for rest, n := reps/3, 1; n < fields; rest, n = rest/3, n+1 {
				chain = group("a", rest%3, chain)
				wide = group("a", rest%3, leaf("b", n%3, api.Bytes), wide, leaf("c", 0, api.Bool))
			}
			for many := range 4 {
				for _, s := range []api.Schema{root(chain), root(wide), root(wide, leaf("b", 2, api.Int32), group("c", 2, chain))} {
					wantBack(t, s, m.records(s, many))
				}
			}
		}
	}
}

func TestP1602DeepRecords(t *testing.T) {
	for rep, times := range []int{1, 1, 2} {
		s, r := leaf("a", rep, api.Int64), api.Tree{N: 1}
		for range api.MaxDepth - 1 {
			s, r = group("a", rep, s), g(slices.Repeat(some(r), times))
		}
		r = g(slices.Repeat(some(r), times))
		wantBack(t, root(s), some(r))
		wantBack(t, root(s), slices.Repeat(some(r), 15))
	}
}

func TestP1602WideRecords(t *testing.T) {
	var fields []api.Schema
	r := g()
	for i := range api.MaxFields - 1 {
		fields = append(fields, leaf(fmt.Sprint("a", i), i%3, api.Int64))
		r.Kids = append(r.Kids, n(slices.Repeat([]int{i}, []int{1, i % 2, i % 5}[i%3])...))
	}
	wantBack(t, root(fields...), slices.Repeat(some(r), api.MaxRows))
}

func TestP1602LongLists(t *testing.T) {
	s := root(group("p", 2, leaf("a", 2, api.Int64), group("q", 1, leaf("b", 0, api.Bytes))))
	var l []api.Tree
	for i := range 50 {
		l = append(l, g(n(make([]int, i)...), []([]api.Tree){nil, some(g(x("z")))}[i%2]))
	}
	wantBack(t, s, some(g(l), g(nil), g(l)))
}

func TestP1602AnyRecords(t *testing.T) {
	m := seed
	cells := 0
	for range 2500 {
		s := m.schema()
		l := m.records(s, m.below(7))
		wantBack(t, s, l)
		for _, c := range columnsOf(t, s, l) {
			cells += len(c.R)
		}
	}
	if cells < 100000 {
		t.Errorf("only %d cells", cells)
	}
}

// lists are all lists of at most most values of these.
func lists(values []api.Tree, most int) (l [][]api.Tree) {
	l = append(l, nil)
	for done := 0; most > 0; most-- {
		begun := len(l)
		for _, ahead := range l[done:begun] {
			for _, v := range values {
				l = append(l, append(slices.Clone(ahead), v))
			}
		}
		done = begun
	}
	return l
}

func TestP1602AllSmallRecords(t *testing.T) {
	// The records that are told are those from which the columns are, and no others with the same ones.
	groups := func(lists ...[]api.Tree) (l []api.Tree) {
		for _, x := range lists {
			l = append(l, g(x))
		}
		return l
	}
	var pairs []api.Tree
	for _, a := range lists(n(0, 1), 1) {
		for _, b := range lists(n(0), 2) {
			pairs = append(pairs, g(a, b))
		}
	}
	for name, c := range map[string]struct {
		s    api.Schema
		most int
		of   []api.Tree
	}{
		"repeated in repeated": {root(group("p", 2, leaf("a", 2, api.Bool))), 2, groups(lists(n(0, 1), 2)...)},
		"three deep":           {root(group("p", 2, group("q", 2, leaf("a", 2, api.Bool)))), 2, groups(lists(groups(lists(n(0), 2)...), 2)...)},
		"optional texts":       {root(group("p", 2, group("q", 1, leaf("a", 1, api.Bytes)))), 3, groups(lists(groups(lists(x("", "a"), 1)...), 1)...)},
		"two in repeated":      {root(group("p", 2, leaf("a", 1, api.Bool), leaf("b", 2, api.Bool))), 3, pairs},
	} {
		all := lists(c.of, c.most)
		for i, l := range all {
			wantBack(t, c.s, some(g(l)))
			wantBack(t, c.s, some(g(l), g(all[i/2])))
		}
		if len(all) < 50 {
			t.Errorf("%s: only %d records", name, len(all))
		}
	}
}

func TestP1AnyColumns(t *testing.T) {
	m := seed
	strange := func() []int {
		l := make([]int, m.below(6))
		for i := range l {
			l[i] = pick(&m, math.MinInt, -1, 0, 0, 0, 0, 1, 1, 2, 3, 4, 9, math.MaxInt)
		}
		return l
	}
	for range 40000 {
		s := m.small()
		l := make([]api.Column, len(schema.Leaves(s)))
		for i := range l {
			l[i] = api.Column{R: strange(), D: strange(), V: make([]api.Value, m.below(6))}
		}
		wantJoined(t, s, l, m.below(4))
		assemble.Records(s, l, pick(&m, math.MinInt, -1, 200, 201, math.MaxInt))
		assemble.Records(m.schema(), l, 1)
	}
}

func TestP1GreatColumns(t *testing.T) {
	s := paper()
	c := api.Column{R: make([]int, 1000000), D: make([]int, 1000000), V: make([]api.Value, 1000000)}
	for i := range c.R {
		c.R[i] = min(i, 1)
	}
	wantError(t, s, slices.Repeat([]api.Column{c}, 7), 200, api.ErrBad)
	wantError(t, s, slices.Repeat([]api.Column{{V: c.V}}, 7), 0, api.ErrBad)
	wantError(t, s, slices.Repeat([]api.Column{c}, 100000), 200, api.ErrArg)
	// Of what is too great nothing is built.
	p := root(group("p", 2, leaf("a", 2, api.Bool)))
	if allocs := testing.AllocsPerRun(1, func() { wantError(t, p, []api.Column{{R: c.R, D: c.R}}, 1, api.ErrBad) }); allocs > 1000 {
		t.Errorf("%v allocations", allocs)
	}
	// One text of many values that stand for more bytes than there is room for.
	text := strings.Repeat("a", 1<<26)
	c = api.Column{R: make([]int, 4000), D: make([]int, 4000), V: slices.Repeat([]api.Value{str(text)}, 4000)}
	wantError(t, root(leaf("a", 0, api.Bytes)), []api.Column{c}, 200, api.ErrBad)
}

func TestP1NoSchemas(t *testing.T) {
	m := seed
	strange := []int{math.MinInt, -1 << 62, -2, -1, 0, 0, 0, 0, 1, 1, 1, 2, 2, 3, 4, 5, 40, 1 << 62, math.MaxInt}
	for range 5000 {
		s := make(api.Schema, m.below(60))
		for i := range s {
			s[i] = api.Field{Name: fmt.Sprint("a", i), Rep: pick(&m, strange...), Kind: pick(&m, strange...), Kids: pick(&m, strange...)}
		}
		for _, l := range [][]api.Column{nil, {of("00")}, printed(), make([]api.Column, len(schema.Leaves(s)))} {
			assemble.Records(s, l, m.below(3))
		}
	}
	for _, s := range []api.Schema{nil, {}, root(), leaf("a", 0, 1), paper()[:5], paper()[1:], {{Name: "m", Kids: 99}}, append(paper(), paper()...), slices.Repeat(leaf("a", 0, 0), 200000)} {
		for _, l := range [][]api.Column{nil, {of("00")}, printed(), make([]api.Column, 201)} {
			for many := range 3 {
				if got, e := assemble.Records(s, l, many); e == api.OK || got != nil {
					t.Errorf("Records of %d fields that are no schema: %d records, %v", len(s), len(got), e)
				}
			}
		}
	}
}

func TestP2ArgumentsAreLeft(t *testing.T) {
	room := append(paper(), paper()...)
	l := append(printed(), of("07", num(7)))[:7]
	for i, c := range l {
		l[i] = api.Column{R: append(c.R, 7, 8)[:len(c.R)], D: append(c.D, 1, 9)[:len(c.D)], V: append(c.V, num(7))[:len(c.V)]}
	}
	whole := func() string {
		words := fmt.Sprint(room, l[:8][7])
		for _, c := range l {
			words += fmt.Sprint(c.R[:len(c.R)+2], c.D[:len(c.D)+2], c.V[:len(c.V)+1], c)
		}
		return words
	}
	was := whole()
	wantRecords(t, room[:len(paper())], l, prints())
	for many := range 6 {
		assemble.Records(room[:len(paper())], l, many)
		assemble.Records(room[:len(paper())], l[:8], many)
		assemble.Records(room, l, many)
		assemble.Records(paper()[:1], l, many)
	}
	if is := whole(); is != was {
		t.Errorf("the arguments were changed: %s, they were %s", is, was)
	}
}

// span is where a slice lies, with its spare capacity.
type span struct{ from, to uintptr }

func spanOf[T any](l []T) span {
	from := uintptr(unsafe.Pointer(unsafe.SliceData(l)))
	var v T
	return span{from, from + uintptr(cap(l))*unsafe.Sizeof(v)}
}

// spans are those of all lists in trees that have room.
func spans(l []api.Tree) (all []span) {
	if cap(l) > 0 {
		all = append(all, spanOf(l))
	}
	for _, t := range l {
		if cap(t.Kids) > 0 {
			all = append(all, spanOf(t.Kids))
		}
		for _, kids := range t.Kids {
			all = append(all, spans(kids)...)
		}
	}
	return all
}

func wantApart(t *testing.T, all []span) {
	t.Helper()
	slices.SortFunc(all, func(a, b span) int { return int(a.from) - int(b.from) })
	for i := 1; i < len(all); i++ {
		if all[i].from < all[i-1].to {
			t.Errorf("two slices share memory: %v, %v", all[i-1], all[i])
		}
	}
}

func TestP2ResultsAreNew(t *testing.T) {
	m := seed
	for range 300 {
		s := m.schema()
		l := columnsOf(t, s, m.records(s, 1+m.below(5)))
		many := len(shred.Starts(l[0]))
		a, _ := assemble.Records(s, l, many)
		b, _ := assemble.Records(s, l, many)
		all := append(spans(a), spans(b)...)
		for _, c := range l {
			for _, v := range []span{spanOf(c.R), spanOf(c.D), spanOf(c.V)} {
				if v.from < v.to {
					all = append(all, v)
				}
			}
		}
		wantApart(t, all)
		for _, c := range l {
			clear(c.R)
			clear(c.D)
			clear(c.V)
		}
		if !slices.EqualFunc(a, b, tree.Same) {
			t.Errorf("%v, %v: two answers", a, b)
		}
	}
	// What is changed in one record is seen in no other one, in no spare room either.
	l := printed()
	got, _ := assemble.Records(paper(), l, 3)
	for _, r := range got {
		for i, kids := range r.Kids {
			for k := range kids[:cap(kids)] {
				kids[:cap(kids)][k] = api.Tree{N: 99}
			}
			r.Kids[i] = append(kids, n(99)...)
		}
	}
	wantRecords(t, paper(), l, prints())
}

// isPart tells whether the bytes of part are some of those of s.
func isPart(s, part string) bool {
	begin, at := uintptr(unsafe.Pointer(unsafe.StringData(s))), uintptr(unsafe.Pointer(unsafe.StringData(part)))
	return begin <= at && at < begin+uintptr(len(s))
}

func TestP2NothingIsKept(t *testing.T) {
	// Values may be parts of a great text, which they would keep.
	text := strings.Repeat("a great text ", 5)
	c := of("01 11 11", str(text[2:7]), str(text), str(text[8:9]))
	got, e := assemble.Records(root(leaf("a", 2, api.Bytes)), []api.Column{c}, 1)
	if e != api.OK {
		t.Fatal(e)
	}
	for i, v := range got[0].Kids[0] {
		if v.S != c.V[i].S || isPart(text, v.S) {
			t.Errorf("the value %q lies in the text, or is not %q", v.S, c.V[i].S)
		}
	}
}

func TestP3TheSameCalls(t *testing.T) {
	for range 3 {
		wantRecords(t, paper(), printed(), prints())
		wantError(t, paper(), printed(), 2, api.ErrBad)
		wantError(t, paper(), printed()[1:], 3, api.ErrArg)
		wantRecords(t, paper(), make([]api.Column, 7), nil)
		wantError(t, nil, nil, 0, api.ErrMany)
	}
}

func TestP4NothingBesideErrors(t *testing.T) {
	// Records were put together, in whole or in part, ahead of the fault.
	l := printed()
	l[6].D[2] = 2
	wantError(t, paper(), l, 3, api.ErrBad)
	l = printed()
	l[6].R[2] = 1
	wantError(t, paper(), l, 3, api.ErrBad)
	wantError(t, paper(), printed(), 4, api.ErrBad)
	// A group has neither a number nor a text, a leaf nothing in it, a number no text, and a text no number.
	var all func(at int, v api.Tree)
	s := paper()
	all = func(at int, v api.Tree) {
		if s[at].Kind == api.Group && (v.N != 0 || v.S != "") || s[at].Kind != api.Group && len(v.Kids) > 0 || v.N != 0 && v.S != "" {
			t.Errorf("%s: %v", s[at].Name, v)
		}
		kid := at + 1
		for _, kids := range v.Kids {
			for _, k := range kids {
				all(kid, k)
			}
			kid = past(s, kid)
		}
	}
	got, _ := assemble.Records(s, printed(), 3)
	for _, r := range got {
		all(0, r)
	}
}
