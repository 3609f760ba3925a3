package shred_test

import (
	"fmt"
	"math"
	"slices"
	"strings"
	"testing"
	"unsafe"

	"shredder/api"
	"shredder/schema"
	"shredder/shred"
	"shredder/tree"
)

// leaf, group tell fields as they lie in a schema: a group's own ones behind it.
func leaf(name string, rep, kind int) api.Schema {
	return api.Schema{{Name: name, Rep: rep, Kind: kind}}
}

func group(name string, rep int, inside ...api.Schema) api.Schema {
	s := api.Schema{{Name: name, Rep: rep, Kind: api.Group, Kids: len(inside)}}
	for _, x := range inside {
		s = append(s, x...)
	}
	return s
}

// paper has groups side by side and in one another, of every Rep, and leaves of every kind.
func paper() api.Schema {
	return group("doc", api.Required,
		leaf("id", api.Required, api.Int64),
		group("links", api.Optional,
			leaf("back", api.Repeated, api.Int64),
			leaf("fore", api.Repeated, api.Int32)),
		group("name", api.Repeated,
			group("lang", api.Required,
				leaf("code", api.Required, api.Bytes),
				leaf("land", api.Repeated, api.Bytes)),
			leaf("url", api.Optional, api.Bytes)),
		leaf("old", api.Optional, api.Bool))
}

// n, x, g are values: numbers, strings, and a group with what is there of each of its fields.
func n(l ...int) (t []api.Tree) {
	for _, v := range l {
		t = append(t, api.Tree{N: v})
	}
	return t
}

func x(l ...string) (t []api.Tree) {
	for _, v := range l {
		t = append(t, api.Tree{S: v})
	}
	return t
}

func g(fields ...[]api.Tree) api.Tree { return api.Tree{Kids: fields} }

// some are trees as a list.
func some(l ...api.Tree) []api.Tree { return l }

// prints are records of paper.
func prints() []api.Tree {
	return some(
		g(n(10),
			some(g(n(20, 40), nil)),
			some(
				g(some(g(x("en"), x("us", "", "gb"))), x("http")),
				g(some(g(x(""), nil)), nil),
				g(some(g(x("fr"), x("fr"))), x(""))),
			n(1)),
		g(n(-7), nil, nil, nil),
		g(n(0), some(g(nil, n(math.MinInt32, 0))), some(g(some(g(x("de"), nil)), nil)), n(0)))
}

// shown is a column in words: those of columns that differ differ, and a list that is nil and one that is empty are the same.
func shown(c api.Column) string {
	words := fmt.Sprint(c.R, c.D)
	for _, v := range c.V {
		words += fmt.Sprintf(" %d%q", v.N, v.S)
	}
	return words
}

// past is where the field behind one and all in it is.
func past(s api.Schema, at int) int {
	next := at + 1
	for range s[at].Kids {
		next = past(s, next)
	}
	return next
}

// spot is what a cell stands for: of each Repeated field that is there on the way to a leaf, which of its values; how many fields that are not Required are there; and the value, if it is.
type spot struct {
	turns []int
	d     int
	v     []api.Value
}

// spots are those of the leaf at a place in what is there of the field at another one.
func spots(s api.Schema, at, place int, l []api.Tree) (all []spot) {
	if len(l) == 0 {
		return []spot{{}}
	}
	for k, t := range l {
		for _, p := range within(s, at, place, t) {
			if s[at].Rep != api.Required {
				p.d++
			}
			if s[at].Rep == api.Repeated {
				p.turns = slices.Insert(p.turns, 0, k)
			}
			all = append(all, p)
		}
	}
	return all
}

// within are the spots in one value.
func within(s api.Schema, at, place int, t api.Tree) []spot {
	if at == place {
		return []spot{{v: []api.Value{{N: t.N, S: t.S}}}}
	}
	kid, list := at+1, 0
	for past(s, kid) <= place {
		kid, list = past(s, kid), list+1
	}
	return spots(s, kid, place, t.Kids[list])
}

// split is Columns by its words: what R is tells the outermost Repeated field of which there is another value than in the cell ahead.
func split(s api.Schema, l []api.Tree) (columns []api.Column) {
	for i, f := range s {
		if f.Kind == api.Group {
			continue
		}
		var c api.Column
		for _, t := range l {
			var ahead []int
			for k, p := range spots(s, 0, i, some(t)) {
				r := 0
				if k > 0 {
					for ahead[r] == p.turns[r] {
						r++
					}
					r++
				}
				c.R, c.D, c.V = append(c.R, r), append(c.D, p.d), append(c.V, p.v...)
				ahead = p.turns
			}
		}
		columns = append(columns, c)
	}
	return columns
}

// mix tells numbers in whose bits there is no order to be seen.
type mix uint64

const seed = mix(88172645463325252)

func (m *mix) below(n int) int {
	*m ^= *m << 13
	*m ^= *m >> 7
	*m ^= *m << 17
	return int(*m >> 1 % mix(n))
}

func pick[T any](m *mix, l ...T) T { return l[m.below(len(l))] }

// fields makes a group of at least one field: at most room in all, no deeper than depth says.
func (m *mix) fields(depth, room int) (list []api.Schema) {
	for room > 0 && (len(list) == 0 || m.below(4) > 0) {
		name := fmt.Sprint("a", len(list))
		f := leaf(name, m.below(3), 1+m.below(4))
		if depth > 1 && room > 1 && m.below(2) == 0 {
			f = group(name, m.below(3), m.fields(depth-1, room-1)...)
		}
		list, room = append(list, f), room-len(f)
	}
	return list
}

func (m *mix) schema() api.Schema {
	return group("m", api.Required, m.fields(api.MaxDepth, api.MaxFields-1)...)
}

// value makes one of the field at a place.
func (m *mix) value(s api.Schema, at int) (t api.Tree) {
	switch s[at].Kind {
	case api.Group:
	case api.Bytes:
		return api.Tree{S: strings.Repeat(pick(m, "y", "\xff", "\u00e9"), pick(m, 0, 1, 2, 50))}
	case api.Bool:
		return api.Tree{N: m.below(2)}
	default:
		return api.Tree{N: pick(m, math.MinInt32, -1, 0, 1, math.MaxInt32)}
	}
	kid := at + 1
	for range s[at].Kids {
		l := make([]api.Tree, []int{1, m.below(2), m.below(4)}[s[kid].Rep])
		for k := range l {
			l[k] = m.value(s, kid)
		}
		t.Kids = append(t.Kids, l)
		kid = past(s, kid)
	}
	return t
}

func (m *mix) records(s api.Schema, many int) (l []api.Tree) {
	for range many {
		l = append(l, m.value(s, 0))
	}
	return l
}

// all are the columns of records.
func all(t *testing.T, s api.Schema, l []api.Tree) []api.Column {
	t.Helper()
	columns, e := shred.Columns(s, l)
	if e != api.OK {
		t.Fatalf("Columns(%v, %v): %v", s, l, e)
	}
	return columns
}

func wantColumns(t *testing.T, s api.Schema, l []api.Tree, want []api.Column) {
	t.Helper()
	got := all(t, s, l)
	if len(got) != len(want) {
		t.Errorf("Columns(%v, %v): %d columns, want %d", s, l, len(got), len(want))
		return
	}
	for i := range got {
		if shown(got[i]) != shown(want[i]) {
			t.Errorf("Columns(%v, %v): %d: %s, want %s", s, l, i, shown(got[i]), shown(want[i]))
		}
	}
}

func wantError(t *testing.T, s api.Schema, l []api.Tree, want api.Errno) {
	t.Helper()
	if c, e := shred.Columns(s, l); e != want || c != nil {
		t.Errorf("Columns of %d trees: %d columns, %v, want %v", len(l), len(c), e, want)
	}
}

// of is a column: digits are levels, R and D of a cell in turn, and v its values.
func of(levels string, v ...api.Value) (c api.Column) {
	for i, x := range []byte(strings.ReplaceAll(levels, " ", "")) {
		if i%2 == 0 {
			c.R = append(c.R, int(x-'0'))
		} else {
			c.D = append(c.D, int(x-'0'))
		}
	}
	c.V = v
	return c
}

func num(n int) api.Value { return api.Value{N: n} }

func str(s string) api.Value { return api.Value{S: s} }

func TestP1401Example(t *testing.T) {
	s := group("m", 0, leaf("a", api.Optional, api.Int64))
	wantColumns(t, s, some(g(nil)), []api.Column{of("00")})
	wantColumns(t, s, some(g([]api.Tree{})), []api.Column{of("00")})
}

func TestP1401Paper(t *testing.T) {
	wantColumns(t, paper(), prints(), []api.Column{
		of("00 00 00", num(10), num(-7), num(0)),
		of("02 12 00 01", num(20), num(40)),
		of("01 00 02 12", num(math.MinInt32), num(0)),
		of("01 11 11 00 01", str("en"), str(""), str("fr"), str("de")),
		of("02 22 22 11 12 00 01", str("us"), str(""), str("gb"), str("fr")),
		of("02 11 12 00 01", str("http"), str("")),
		of("01 00 01", num(1), num(0)),
	})
}

func TestP1401NoRecords(t *testing.T) {
	wantColumns(t, paper(), nil, make([]api.Column, 7))
	wantColumns(t, paper(), []api.Tree{}, make([]api.Column, 7))
}

func TestP1401OneLeaf(t *testing.T) {
	for _, c := range []struct {
		rep  int
		l    []api.Tree
		want api.Column
	}{
		{api.Required, some(g(n(5))), of("00", num(5))},
		{api.Required, some(g(n(5)), g(n(0)), g(n(5))), of("00 00 00", num(5), num(0), num(5))},
		{api.Optional, some(g(n(0))), of("01", num(0))},
		{api.Optional, some(g(n(5)), g(nil), g(n(6))), of("01 00 01", num(5), num(6))},
		{api.Repeated, some(g(nil)), of("00")},
		{api.Repeated, some(g(n(5))), of("01", num(5))},
		{api.Repeated, some(g(n(5, 5, 6))), of("01 11 11", num(5), num(5), num(6))},
		{api.Repeated, some(g(nil), g(n(5, 6)), g(nil), g(n(7))), of("00 01 11 00 01", num(5), num(6), num(7))},
	} {
		wantColumns(t, group("m", 0, leaf("a", c.rep, api.Int32)), c.l, []api.Column{c.want})
	}
}

func TestP1401RepeatedInRepeated(t *testing.T) {
	s := group("m", 0, group("p", 2, group("q", 2, leaf("a", 2, api.Int64))))
	for _, c := range []struct {
		r    api.Tree
		want api.Column
	}{
		{g(nil), of("00")},
		{g(some(g(nil))), of("01")},
		{g(some(g(some(g(nil))))), of("02")},
		{g(some(g(some(g(n(1)))))), of("03", num(1))},
		{g(some(g(nil), g(nil))), of("01 11")},
		{g(some(g(some(g(nil), g(nil))), g(nil))), of("02 22 11")},
		{g(some(g(some(g(nil))), g(some(g(n(1)))))), of("02 13", num(1))},
		{g(some(g(some(g(n(1, 2)), g(n(3)))), g(nil), g(some(g(nil), g(n(4, 5)))))), of("03 33 23 11 12 23 33", num(1), num(2), num(3), num(4), num(5))},
	} {
		wantColumns(t, s, some(c.r), []api.Column{c.want})
		wantColumns(t, s, some(c.r, g(nil)), []api.Column{{R: append(slices.Clone(c.want.R), 0), D: append(slices.Clone(c.want.D), 0), V: c.want.V}})
	}
}

func TestP1401RequiredCountsForNoLevel(t *testing.T) {
	s := group("m", 0, group("p", 0, group("q", 2, group("r", 0, group("o", 1, group("u", 0, leaf("a", 0, api.Bytes)))))))
	p := func(l ...api.Tree) []api.Tree { return some(g(some(g(l)))) }
	q := func(l ...api.Tree) api.Tree { return g(some(g(l))) }
	u := g(some(g(x("a"))))
	wantColumns(t, s, p(), []api.Column{of("00")})
	wantColumns(t, s, p(q()), []api.Column{of("01")})
	wantColumns(t, s, p(q(u)), []api.Column{of("02", str("a"))})
	wantColumns(t, s, p(q(u), q(), q(u)), []api.Column{of("02 11 12", str("a"), str("a"))})
}

func TestP1401FieldsBeside(t *testing.T) {
	// Leaves lie behind groups of several fields, and each takes its own list.
	s := group("m", 0,
		group("p", 2, leaf("a", 2, api.Int64), leaf("b", 0, api.Int64), leaf("c", 1, api.Int64)),
		leaf("d", 2, api.Int64),
		group("q", 0, leaf("e", 1, api.Int64), group("r", 1, leaf("f", 0, api.Int64), leaf("h", 2, api.Int64)), leaf("i", 0, api.Int64)))
	r := g(
		some(g(n(1, 2), n(3), nil), g(nil, n(4), n(5))),
		n(6, 7),
		some(g(n(8), some(g(n(9), n(10, 11))), n(12))))
	wantColumns(t, s, some(r), []api.Column{
		of("02 22 11", num(1), num(2)),
		of("01 11", num(3), num(4)),
		of("01 12", num(5)),
		of("01 11", num(6), num(7)),
		of("01", num(8)),
		of("01", num(9)),
		of("02 12", num(10), num(11)),
		of("00", num(12)),
	})
}

func TestP1401Kinds(t *testing.T) {
	long := strings.Repeat("\xff", api.MaxValue)
	for kind, l := range map[int][]api.Tree{
		api.Bool:  n(0, 1, 0),
		api.Int32: n(math.MinInt32, -1, 0, math.MaxInt32),
		api.Int64: n(math.MinInt64, -1, 0, math.MaxInt64),
		api.Bytes: x("", "a", "\x00", "", long, "\u00e9"),
	} {
		want := api.Column{}
		for k, v := range l {
			want.R, want.D, want.V = append(want.R, min(k, 1)), append(want.D, 1), append(want.V, api.Value{N: v.N, S: v.S})
		}
		wantColumns(t, group("m", 0, leaf("a", 2, kind)), some(g(l)), []api.Column{want})
	}
}

func TestP1401EveryChain(t *testing.T) {
	// A way of every few fields, each of every Rep.
	m := seed
	for fields := 1; fields <= 5; fields++ {
		times := 1
		for range fields {
			times *= 3
		}
		for reps := range times {
			s := leaf("a", reps%3, api.Int64)
			for rest := reps / 3; len(s) < fields; rest /= 3 {
				s = group("a", rest%3, s)
			}
			s = group("m", 0, s)
			for many := range 6 {
				l := m.records(s, many)
				wantColumns(t, s, l, split(s, l))
			}
		}
	}
}

// chain is a schema of one leaf, as deep as may be, and the record in which each field is there so many times.
func chain(rep, times int) (api.Schema, api.Tree) {
	s, r := leaf("a", rep, api.Int64), api.Tree{N: 1}
	for range api.MaxDepth - 1 {
		s, r = group("a", rep, s), g(slices.Repeat(some(r), times))
	}
	return group("m", 0, s), g(slices.Repeat(some(r), times))
}

func TestP1401DeepRecords(t *testing.T) {
	for rep, times := range []int{1, 1, 2} {
		s, r := chain(rep, times)
		l := some(r, r)
		wantColumns(t, s, l, split(s, l))
		if leaves := schema.Leaves(s); all(t, s, l)[0].D[0] != leaves[0].D || len(leaves) != 1 {
			t.Errorf("the value of %v has D %d", leaves, all(t, s, l)[0].D[0])
		}
	}
	s, r := chain(api.Repeated, 2)
	if c := all(t, s, some(r))[0]; len(c.R) != 256 || c.R[1] != 8 || c.R[128] != 1 || c.R[192] != 2 || len(c.V) != 256 {
		t.Errorf("%s", shown(c))
	}
}

func TestP1401WideSchemas(t *testing.T) {
	var fields []api.Schema
	r := g()
	for i := range api.MaxFields - 1 {
		fields = append(fields, leaf(fmt.Sprint("a", i), i%3, api.Int64))
		r.Kids = append(r.Kids, n(slices.Repeat([]int{i}, []int{1, i % 2, i % 5}[i%3])...))
	}
	s := group("m", 0, fields...)
	l := slices.Repeat(some(r), api.MaxRows)
	wantColumns(t, s, l, split(s, l))
}

func TestP1401AnyRecords(t *testing.T) {
	m := seed
	cells := 0
	for range 2500 {
		s := m.schema()
		l := m.records(s, m.below(7))
		want := split(s, l)
		wantColumns(t, s, l, want)
		for _, c := range want {
			cells += len(c.R)
		}
	}
	if cells < 100000 {
		t.Errorf("only %d cells", cells)
	}
}

func TestP1401ManyTrees(t *testing.T) {
	s := group("m", 0, leaf("a", 2, api.Int64))
	for _, many := range []int{0, 1, 199, 200} {
		l := slices.Repeat(some(g(n(1))), many)
		wantColumns(t, s, l, split(s, l))
	}
	for _, many := range []int{201, 202, 5000} {
		wantError(t, s, slices.Repeat(some(g(n(1))), many), api.ErrMany)
		wantError(t, s, make([]api.Tree, many), api.ErrMany) // none of them is a record
		wantError(t, s, slices.Repeat(some(g(nil)), many), api.ErrMany)
	}
}

func TestP1401ErrorsOfFits(t *testing.T) {
	good := g(n(1), nil, some(g(some(g(x("a"), nil)), nil)), nil)
	bad := map[api.Errno][]api.Tree{
		api.ErrShape: {{}, {N: 1}, g(nil), g(nil, nil, nil, nil), g(n(1), nil, nil, n(1, 0)), g(n(1), nil, nil, x("a")), g(n(1), nil, some(g()), nil)},
		api.ErrOver:  {g(n(1), nil, nil, n(2)), g(n(1), some(g(nil, n(math.MaxInt32+1))), nil, nil)},
		api.ErrLong:  {g(n(1), nil, some(g(some(g(x("a"), nil)), x(strings.Repeat("y", 101)))), nil)},
		api.ErrMany:  {g(n(1), some(g(n(make([]int, 51)...), nil)), nil, nil)},
	}
	for want, trees := range bad {
		for _, r := range trees {
			wantError(t, paper(), some(r), want)
			for place := range 4 {
				l := slices.Repeat(some(good), 4)
				l[place] = r
				wantError(t, paper(), l, want)
				l[3] = r
				wantError(t, paper(), l, want)
			}
			for _, others := range bad { // of two the first one decides
				wantError(t, paper(), some(good, r, others[0]), want)
			}
			wantError(t, paper(), slices.Repeat(some(r), 201), api.ErrMany)
		}
	}
}

func TestP1401AnyTrees(t *testing.T) {
	m := seed
	seen := map[api.Errno]int{}
	for range 5000 {
		s, other := m.schema(), m.schema()
		l := append(m.records(s, m.below(4)), m.records(other, m.below(2))...)
		want := api.OK
		for _, r := range l {
			if want == api.OK {
				want = tree.Fits(s, r)
			}
		}
		seen[want]++
		if want == api.OK {
			wantColumns(t, s, l, split(s, l))
		} else {
			wantError(t, s, l, want)
		}
	}
	if seen[api.OK] < 1000 || seen[api.ErrShape] < 1000 {
		t.Errorf("%v", seen)
	}
}

func TestP1401ManyCells(t *testing.T) {
	full := slices.Repeat(some(g(n(make([]int, 50)...))), 80)
	s := group("m", 0, leaf("a", 2, api.Int64))
	wantColumns(t, s, full, split(s, full))
	for _, more := range []api.Tree{g(nil), g(n(1)), g(n(1, 2))} {
		wantError(t, s, append(slices.Clone(full), more), api.ErrMany)
		wantError(t, s, append(some(more), full...), api.ErrMany)
	}
	l := append(full[:79:79], g(n(make([]int, 49)...)), g(n(1)))
	wantColumns(t, s, l, split(s, l))
}

func TestP1401ManyCellsWithoutValues(t *testing.T) {
	// A field that is not there is a cell too.
	s := group("m", 0, group("p", 2, leaf("a", 1, api.Int64)))
	full := slices.Repeat(some(g(slices.Repeat(some(g(nil)), 50))), 80)
	wantColumns(t, s, full, split(s, full))
	wantError(t, s, append(slices.Clone(full), g(nil)), api.ErrMany)
	wantError(t, s, append(slices.Clone(full), g(some(g(n(1))))), api.ErrMany)
}

func TestP1401ManyCellsOfOneColumn(t *testing.T) {
	// The others have few, whichever it is.
	for at := range 3 {
		fields := []api.Schema{leaf("a", 1, api.Int64), leaf("b", 0, api.Int64), leaf("c", 2, api.Int64)}
		fields[at] = leaf("d", 2, api.Int64)
		r := g(nil, n(1), nil)
		r.Kids[at] = n(make([]int, 50)...)
		s := group("m", 0, fields...)
		l := slices.Repeat(some(r), 80)
		wantColumns(t, s, l, split(s, l))
		wantError(t, s, append(l, r), api.ErrMany)
	}
	// One record alone has them.
	s := group("m", 0, leaf("b", 0, api.Int64), group("p", 2, leaf("c", 0, api.Int64), group("q", 2, leaf("a", 2, api.Int64))))
	q := g(n(make([]int, 50)...))
	many := func(p, left int) api.Tree {
		rest := g(n(1), some(q))
		if left > 0 {
			rest = g(n(1), some(q, g(n(make([]int, left)...))))
		}
		return g(n(1), append(slices.Repeat(some(g(n(1), slices.Repeat(some(q), 20))), p), rest))
	}
	for _, c := range []struct {
		p, left int
		fits    bool
	}{{3, 50, true}, {3, 1, true}, {4, 0, false}, {4, 50, false}, {49, 50, false}} {
		l := some(many(c.p, c.left))
		if c.fits {
			wantColumns(t, s, l, split(s, l))
		} else {
			wantError(t, s, l, api.ErrMany)
		}
	}
}

func TestP1401FitsAheadOfManyCells(t *testing.T) {
	s := group("m", 0, leaf("a", 2, api.Int64))
	l := slices.Repeat(some(g(n(make([]int, 50)...))), 90)
	wantError(t, s, append(l[:90:90], api.Tree{}), api.ErrShape)
	wantError(t, s, append(l[:90:90], g(x("a"))), api.ErrShape)
	s = group("m", 0, leaf("a", 2, api.Int32))
	wantError(t, s, append(l[:90:90], g(n(1<<40))), api.ErrOver)
	s = group("m", 0, leaf("a", 2, api.Bytes))
	l = slices.Repeat(some(g(make([]api.Tree, 50))), 90)
	wantError(t, s, append(l, g(x(strings.Repeat("y", 101)))), api.ErrLong)
}

func TestP1402Starts(t *testing.T) {
	for _, c := range []struct {
		c    api.Column
		want []int
	}{
		{api.Column{}, nil},
		{of("00"), []int{0}},
		{of("03 33 23 11"), []int{0}},
		{of("00 00 00"), []int{0, 1, 2}},
		{of("01 11 21 01 00 01 11"), []int{0, 3, 4, 5}},
	} {
		if got := shred.Starts(c.c); !slices.Equal(got, c.want) {
			t.Errorf("Starts(%s): %v, want %v", shown(c.c), got, c.want)
		}
	}
	m := seed
	for range 1000 {
		s := m.schema()
		l := m.records(s, m.below(6))
		var parts [][]api.Column
		for _, r := range l {
			parts = append(parts, split(s, some(r)))
		}
		for i, c := range all(t, s, l) {
			var want []int
			begin := 0
			for _, part := range parts { // behind as many cells as the records ahead have
				want = append(want, begin)
				begin += len(part[i].R)
			}
			if got := shred.Starts(c); !slices.Equal(got, want) {
				t.Errorf("Starts(%s): %v, want %v", shown(c), got, want)
			}
		}
	}
}

func wantCut(t *testing.T, c api.Column, leaf api.Leaf, from, to int, want api.Column) {
	t.Helper()
	if got := shred.Cut(c, leaf, from, to); shown(got) != shown(want) {
		t.Errorf("Cut(%s, %v, %d, %d): %s, want %s", shown(c), leaf, from, to, shown(got), shown(want))
	}
}

func TestP1402Cut(t *testing.T) {
	leaves := schema.Leaves(paper())
	columns := all(t, paper(), prints())
	c, land := columns[4], leaves[4]
	wantCut(t, c, land, 0, 3, c)
	wantCut(t, c, land, 0, 2, of("02 22 22 11 12 00", str("us"), str(""), str("gb"), str("fr")))
	wantCut(t, c, land, 0, 1, of("02 22 22 11 12", str("us"), str(""), str("gb"), str("fr")))
	wantCut(t, c, land, 1, 2, of("00"))
	wantCut(t, c, land, 1, 3, of("00 01"))
	wantCut(t, c, land, 2, 3, of("01"))
	wantCut(t, columns[1], leaves[1], 1, 3, of("00 01"))
	wantCut(t, columns[2], leaves[2], 2, 3, of("02 12", num(math.MinInt32), num(0)))
	wantCut(t, columns[6], leaves[6], 2, 3, of("01", num(0)))
}

func TestP1402CutNothing(t *testing.T) {
	leaves := schema.Leaves(paper())
	ends := []int{math.MinInt, math.MinInt + 1, -4, -3, -1, 0, 1, 2, 3, 4, 5, math.MaxInt - 1, math.MaxInt}
	for i, c := range all(t, paper(), prints()) {
		for _, from := range ends {
			for _, to := range ends {
				if from < 0 || to > 3 || from >= to {
					wantCut(t, c, leaves[i], from, to, api.Column{})
				}
				wantCut(t, api.Column{}, leaves[i], from, to, api.Column{})
			}
		}
	}
}

func TestP1402CutAsOfFewerRecords(t *testing.T) {
	m := seed
	for range 600 {
		s := m.schema()
		leaves := schema.Leaves(s)
		l := m.records(s, m.below(7))
		columns := all(t, s, l)
		for to := range len(l) + 1 {
			for from := range to + 1 {
				for i, want := range split(s, l[from:to]) {
					wantCut(t, columns[i], leaves[i], from, to, want)
				}
			}
		}
	}
}

func TestP1402CutOfACut(t *testing.T) {
	s := group("m", 0, leaf("a", 2, api.Int64))
	a := schema.Leaves(s)[0]
	l := some(g(n(1, 2)), g(nil), g(n(3)), g(n(4, 5, 6)), g(nil))
	c := shred.Cut(all(t, s, l)[0], a, 1, 5)
	wantCut(t, c, a, 0, 4, c)
	wantCut(t, c, a, 1, 3, of("01 01 11 11", num(3), num(4), num(5), num(6)))
	wantCut(t, c, a, 3, 4, of("00"))
	wantCut(t, c, a, 1, 5, api.Column{})
}

func wantSame(t *testing.T, a, b api.Column, want bool) {
	t.Helper()
	if shred.Same(a, b) != want || shred.Same(b, a) != want {
		t.Errorf("Same(%s, %s): want %v", shown(a), shown(b), want)
	}
}

func TestP1402Same(t *testing.T) {
	columns := []api.Column{
		{},
		of("00"), of("01"), of("10"), of("00 00"), of("00", num(0)), of("01", num(0)), of("01", num(1)), of("01", num(-1)), of("01", num(1<<32)),
		of("01", str("a")), of("01", str("b")), of("01", str("ab")), of("01", str("A")), of("01", api.Value{N: 1, S: "a"}),
		of("01 11", str("a"), str("b")), of("01 11", str("b"), str("a")), of("01 11", str("ab"), str("")), of("01 01", str("a"), str("b")), of("01 11", str("a")),
		{R: []int{0}}, {D: []int{0}}, {V: []api.Value{{}}}, {R: []int{0}, V: []api.Value{{}}}, {D: []int{0, 0}}, {R: []int{-1}, D: []int{math.MaxInt}}, {R: []int{math.MaxInt}, D: []int{-1}},
	}
	for i, a := range columns {
		for k, b := range columns {
			wantSame(t, a, api.Column{R: slices.Clone(b.R), D: slices.Clone(b.D), V: slices.Clone(b.V)}, i == k)
		}
	}
	wantSame(t, api.Column{}, api.Column{R: []int{}, D: []int{}, V: []api.Value{}}, true)
	wantSame(t, of("00"), api.Column{R: []int{0}, D: []int{0}, V: make([]api.Value, 0, 3)}, true)
}

func TestP1402SameLooksAtEachCell(t *testing.T) {
	l := slices.Repeat(some(g(n(make([]int, 50)...))), 80)
	c := all(t, group("m", 0, leaf("a", 2, api.Int64)), l)[0]
	other := func() api.Column {
		return api.Column{R: slices.Clone(c.R), D: slices.Clone(c.D), V: slices.Clone(c.V)}
	}
	wantSame(t, c, other(), true)
	for _, i := range []int{0, 1, 7, 2000, 3998, 3999} {
		for _, spoil := range []func(x *api.Column){
			func(x *api.Column) { x.R[i]++ },
			func(x *api.Column) { x.D[i]-- },
			func(x *api.Column) { x.V[i].N++ },
			func(x *api.Column) { x.V[i].S = "a" },
			func(x *api.Column) { x.R = x.R[:i] },
			func(x *api.Column) { x.D = x.D[:i] },
			func(x *api.Column) { x.V = x.V[:i] },
		} {
			x := other()
			spoil(&x)
			if shred.Same(x, c) || shred.Same(c, x) {
				t.Errorf("Same: true of columns that differ at %d", i)
			}
		}
	}
}

func TestP1403EachRecordHasACell(t *testing.T) {
	m := seed
	for range 1000 {
		s := m.schema()
		l := m.records(s, m.below(7))
		for _, c := range all(t, s, l) {
			starts := shred.Starts(c)
			if len(starts) != len(l) || len(l) > 0 && starts[0] != 0 {
				t.Errorf("%d records, which begin at %v", len(l), starts)
			}
		}
	}
	// Of a record that has nothing too.
	empty := group("m", 0, group("p", 1, leaf("a", 0, api.Int64), leaf("b", 2, api.Int64)), group("q", 2, leaf("c", 1, api.Bytes)))
	for _, c := range all(t, empty, some(g(nil, nil), g(nil, nil))) {
		if shown(c) != shown(of("00 00")) {
			t.Errorf("%s", shown(c))
		}
	}
}

// lists are all lists of at most most values of these.
func lists(values []api.Tree, most int) (l [][]api.Tree) {
	l = append(l, nil)
	for done := 0; most > 0; most-- {
		begun := len(l)
		for _, ahead := range l[done:begun] {
			for _, v := range values {
				l = append(l, append(slices.Clone(ahead), v))
			}
		}
		done = begun
	}
	return l
}

func TestP1403OtherRecordsOtherColumns(t *testing.T) {
	// All records of small schemas: no two of them have the same columns.
	groups := func(lists ...[]api.Tree) (l []api.Tree) {
		for _, x := range lists {
			l = append(l, g(x))
		}
		return l
	}
	bools := n(0, 1)
	for name, c := range map[string]struct {
		s    api.Schema
		most int
		of   []api.Tree
	}{
		"repeated in repeated": {group("m", 0, group("p", 2, leaf("a", 2, api.Bool))), 2, groups(lists(bools, 2)...)},
		"three deep":           {group("m", 0, group("p", 2, group("q", 2, leaf("a", 2, api.Bool)))), 2, groups(lists(groups(lists(n(0), 2)...), 2)...)},
		"optional in repeated": {group("m", 0, group("p", 2, leaf("a", 1, api.Bool))), 4, groups(lists(bools, 1)...)},
		"repeated in optional": {group("m", 0, group("p", 1, leaf("a", 2, api.Bool))), 1, groups(lists(bools, 5)...)},
		"optional texts":       {group("m", 0, group("p", 2, group("q", 1, leaf("a", 1, api.Bytes)))), 3, groups(lists(groups(lists(x("", "a"), 1)...), 1)...)},
	} {
		seen := map[string]int{}
		for i, l := range lists(c.of, c.most) {
			words := ""
			for _, column := range all(t, c.s, some(g(l))) {
				words += shown(column)
			}
			if k, ok := seen[words]; ok {
				t.Errorf("%s: the records %d and %d have the columns %s", name, k, i, words)
			}
			seen[words] = i
		}
		if len(seen) < 50 {
			t.Errorf("%s: only %d records", name, len(seen))
		}
	}
}

// loop is a tree that is in itself, so many times, in so many lists.
func loop(lists, times int) api.Tree {
	t := g(make([][]api.Tree, lists)...)
	for i := range t.Kids {
		t.Kids[i] = slices.Repeat(some(t), times)
	}
	return t
}

func TestP1AnyTrees(t *testing.T) {
	deep := api.Tree{N: 1}
	for range 3000000 {
		deep = g(some(deep))
	}
	s, _ := chain(api.Repeated, 1)
	for _, r := range []api.Tree{{}, loop(1, 1), loop(1, 50), loop(4, 1), loop(2, 50), loop(100, 100), deep, g(make([][]api.Tree, 1000000)...), g(make([]api.Tree, 1000000))} {
		for _, s := range []api.Schema{paper(), s, group("m", 0, leaf("a", 2, api.Bool))} {
			if c, e := shred.Columns(s, some(r, r)); e == api.OK || c != nil {
				t.Errorf("Columns: %d columns, %v", len(c), e)
			}
		}
	}
	// Few lists that stand for many values: there is no room for their cells.
	five := group("m", 0, group("p", 2, group("q", 2, group("r", 2, leaf("a", 2, api.Bool)))))
	r := api.Tree{N: 1}
	for range 4 {
		r = g(slices.Repeat(some(r), 50))
	}
	wantError(t, five, some(r), api.ErrMany)
}

func TestP1NoSchemas(t *testing.T) {
	m := seed
	strange := []int{math.MinInt, -1 << 62, -2, -1, 0, 0, 0, 0, 1, 1, 1, 2, 2, 3, 4, 5, 40, 1 << 62, math.MaxInt}
	for range 5000 {
		s := make(api.Schema, m.below(60))
		for i := range s {
			s[i] = api.Field{Name: fmt.Sprint("a", i), Rep: pick(&m, strange...), Kind: pick(&m, strange...), Kids: pick(&m, strange...)}
		}
		for _, l := range [][]api.Tree{nil, {{}}, prints(), {loop(1, 1)}, m.records(m.schema(), 3)} {
			shred.Columns(s, l)
		}
	}
	for _, s := range []api.Schema{nil, {}, group("m", 0), leaf("a", 0, 1), paper()[:5], paper()[1:], {{Name: "m", Kids: 99}}, append(paper(), paper()...), slices.Repeat(leaf("a", 0, 0), 200000)} {
		for _, l := range [][]api.Tree{nil, {{}}, prints(), make([]api.Tree, 201)} {
			if c, e := shred.Columns(s, l); e == api.OK || c != nil {
				t.Errorf("Columns of %d fields that are no schema: %d columns, %v", len(s), len(c), e)
			}
		}
	}
}

func TestP1AnyColumns(t *testing.T) {
	m := seed
	levels := func() []int {
		l := make([]int, m.below(6))
		for i := range l {
			l[i] = pick(&m, math.MinInt, -1, 0, 0, 0, 0, 1, 1, 2, math.MaxInt)
		}
		return l
	}
	ends := []int{math.MinInt, -1, 0, 1, 2, 3, 5, 6, math.MaxInt}
	for range 20000 {
		a, b := api.Column{R: levels(), D: levels(), V: make([]api.Value, m.below(6))}, api.Column{R: levels(), D: levels(), V: make([]api.Value, m.below(6))}
		if !shred.Same(a, a) || shred.Same(a, b) != (shown(a) == shown(b)) {
			t.Errorf("Same(%s, %s)", shown(a), shown(b))
		}
		if starts := shred.Starts(a); len(starts) > len(a.R) {
			t.Errorf("Starts(%s): %v", shown(a), starts)
		}
		l := api.Leaf{Field: pick(&m, ends...), R: pick(&m, ends...), D: pick(&m, ends...), Kind: pick(&m, ends...)}
		shred.Cut(a, l, pick(&m, ends...), pick(&m, ends...))
		shred.Cut(a, l, 0, len(shred.Starts(a)))
	}
}

func TestP2ArgumentsAreLeft(t *testing.T) {
	room := append(paper(), paper()...)
	records := prints()
	for i, r := range records {
		records[i].Kids = append(r.Kids, n(7))[:4]
	}
	records[0].Kids[1] = append(records[0].Kids[1], n(8)...)[:1]
	records = append(records, api.Tree{N: 9})[:3]
	was := fmt.Sprint(prints())
	if c, e := shred.Columns(room[:len(paper())], records); e != api.OK || len(c) != 7 {
		t.Errorf("%v", e)
	}
	shred.Columns(room, records)
	shred.Columns(room[:len(paper())], records[:4])
	if !slices.Equal(room, append(paper(), paper()...)) {
		t.Errorf("the schema was changed: %v", room)
	}
	if fmt.Sprint(records) != was || records[:4][3].N != 9 || records[0].Kids[:5][4][0].N != 7 || records[0].Kids[1][:2][1].N != 8 {
		t.Errorf("the records were changed: %v", records)
	}
	c := of("01 01 11 00", num(1), num(2), num(3))
	c.R, c.D, c.V = append(c.R, 7, 8), append(c.D, 1, 9), append(c.V, num(7))
	part := api.Column{R: c.R[:4], D: c.D[:4], V: c.V[:3]}
	words := shown(c)
	for from := range 5 {
		for to := range 5 {
			shred.Cut(part, api.Leaf{D: 1}, from, to)
		}
	}
	shred.Starts(part)
	shred.Same(part, c)
	if shown(c) != words {
		t.Errorf("the column was changed: %s, it was %s", shown(c), words)
	}
}

// span is where a slice lies, with its spare capacity.
type span struct{ from, to uintptr }

func spanOf[T any](l []T) span {
	from := uintptr(unsafe.Pointer(unsafe.SliceData(l)))
	var v T
	return span{from, from + uintptr(cap(l))*unsafe.Sizeof(v)}
}

// spans are those of columns' slices that have room.
func spans(columns ...api.Column) (all []span) {
	for _, c := range columns {
		for _, s := range []span{spanOf(c.R), spanOf(c.D), spanOf(c.V)} {
			if s.from < s.to {
				all = append(all, s)
			}
		}
	}
	return all
}

func wantApart(t *testing.T, all []span) {
	t.Helper()
	for i, a := range all {
		for _, b := range all[:i] {
			if a.from < b.to && b.from < a.to {
				t.Errorf("two slices share memory: %v, %v", a, b)
			}
		}
	}
}

func TestP2ResultsAreNew(t *testing.T) {
	s, l := paper(), prints()
	leaves := schema.Leaves(s)
	columns, again := all(t, s, l), all(t, s, l)
	wantApart(t, append(spans(columns...), spans(again...)...))
	for i, c := range columns {
		at := spans(c)
		for from := range 4 {
			for to := range 4 {
				at = append(at, spans(shred.Cut(c, leaves[i], from, to))...)
			}
		}
		wantApart(t, append(at, spanOf(shred.Starts(c)), spanOf(shred.Starts(c))))
		if part := shred.Cut(c, leaves[i], 0, 3); !shred.Same(part, c) {
			t.Errorf("Cut: %s, want %s", shown(part), shown(c))
		}
	}
	for _, c := range columns {
		clear(c.R[:cap(c.R)])
		clear(c.D[:cap(c.D)])
		clear(c.V[:cap(c.V)])
	}
	for i, want := range split(s, prints()) {
		if !shred.Same(again[i], want) {
			t.Errorf("%d: %s changed with another answer", i, shown(again[i]))
		}
	}
	if fmt.Sprint(l) != fmt.Sprint(prints()) {
		t.Error("the records changed with an answer")
	}
}

// isPart tells whether the bytes of part are some of those of s.
func isPart(s, part string) bool {
	begin, at := uintptr(unsafe.Pointer(unsafe.StringData(s))), uintptr(unsafe.Pointer(unsafe.StringData(part)))
	return begin <= at && at < begin+uintptr(len(s))
}

func TestP2NothingIsKept(t *testing.T) {
	// Values may be parts of a great text, which they would keep.
	text := strings.Repeat("a great text ", 5)
	s := group("m", 0, leaf("a", 2, api.Bytes))
	c := all(t, s, some(g(x(text[2:7], text, text[8:9]))))[0]
	for _, v := range c.V {
		if isPart(text, v.S) {
			t.Errorf("the value %q lies in the text", v.S)
		}
	}
	for i, v := range shred.Cut(c, schema.Leaves(s)[0], 0, 1).V {
		if isPart(c.V[i].S, v.S) {
			t.Errorf("the value %q of the cut lies in the column's", v.S)
		}
	}
}

func TestP3TheSameCalls(t *testing.T) {
	s := group("m", 0, leaf("a", 2, api.Int64))
	a := schema.Leaves(s)[0]
	for range 3 {
		wantColumns(t, paper(), prints(), split(paper(), prints()))
		wantColumns(t, s, some(g(n(1, 2))), []api.Column{of("01 11", num(1), num(2))})
		wantError(t, s, some(g(n(1, 2)), g()), api.ErrShape)
		wantError(t, nil, nil, api.ErrMany)
		wantCut(t, of("01 11 00", num(1), num(2)), a, 0, 1, of("01 11", num(1), num(2)))
		wantCut(t, of("01 11 00", num(1), num(2)), a, 0, 3, api.Column{})
	}
}

func TestP4NothingBesideErrors(t *testing.T) {
	// Columns were made, in whole or in part, ahead of the one for which there is no room.
	s := group("m", 0, leaf("a", 0, api.Int64), leaf("b", 2, api.Int64))
	r := g(n(1), n(make([]int, 50)...))
	wantError(t, s, slices.Repeat(some(r), 81), api.ErrMany)
	wantError(t, s, append(slices.Repeat(some(r), 3), g()), api.ErrShape)
	// A number's value has no text, and a text's no number.
	for _, c := range all(t, paper(), prints()) {
		for _, v := range c.V {
			if v.N != 0 && v.S != "" {
				t.Errorf("%v", v)
			}
		}
	}
}
