package fsm_test

import (
	"fmt"
	"math"
	"slices"
	"testing"

	"shredder/api"
	"shredder/fsm"
	"shredder/schema"
	"shredder/shred"
)

// leaf, group tell fields as they lie in a schema: a group's own ones behind it.
func leaf(name string, rep int) api.Schema {
	return api.Schema{{Name: name, Rep: rep, Kind: api.Int64}}
}

func group(name string, rep int, inside ...api.Schema) api.Schema {
	s := api.Schema{{Name: name, Rep: rep, Kind: api.Group, Kids: len(inside)}}
	for _, x := range inside {
		s = append(s, x...)
	}
	return s
}

func root(inside ...api.Schema) api.Schema { return group("m", api.Required, inside...) }

// paper has groups side by side and in one another, of every Rep.
func paper() api.Schema {
	return root(
		leaf("id", 0),
		group("links", 1,
			leaf("back", 2),
			leaf("fore", 2)),
		group("name", 2,
			group("lang", 2,
				leaf("code", 0),
				leaf("land", 1)),
			leaf("url", 1)))
}

// past is where the field behind one and all in it is.
func past(s api.Schema, at int) int {
	next := at + 1
	for range s[at].Kids {
		next = past(s, next)
	}
	return next
}

// places are those of the leaves from one place up to another.
func places(s api.Schema, from, to int) (l []int) {
	for at := from; at < to; at++ {
		if s[at].Kind != api.Group {
			l = append(l, at)
		}
	}
	return l
}

// common is Common by its words, of the leaves at two places.
func common(s api.Schema, a, b int) (n int) {
	for at, f := range s {
		end := past(s, at)
		if f.Rep == api.Repeated && at <= a && a < end && at <= b && b < end {
			n++
		}
	}
	return n
}

// next is Next by its words.
func next(s api.Schema) (all [][]int) {
	l := places(s, 0, len(s))
	for i, at := range l {
		var row []int
		for r := range common(s, at, at) + 1 {
			to := slices.IndexFunc(l, func(b int) bool { return common(s, at, b) >= r })
			if i+1 == len(l) && r == 0 || i+1 < len(l) && r <= common(s, at, l[i+1]) {
				to = i + 1
			}
			row = append(row, to)
		}
		all = append(all, row)
	}
	return all
}

// mix tells numbers in whose bits there is no order to be seen.
type mix uint64

const seed = mix(88172645463325252)

func (m *mix) below(n int) int {
	*m ^= *m << 13
	*m ^= *m >> 7
	*m ^= *m << 17
	return int(*m >> 1 % mix(n))
}

func pick[T any](m *mix, l ...T) T { return l[m.below(len(l))] }

// fields makes a group of at least one field: at most room in all, no deeper than depth says.
func (m *mix) fields(depth, room int) (list []api.Schema) {
	for room > 0 && (len(list) == 0 || m.below(4) > 0) {
		name := fmt.Sprint("a", len(list))
		f := leaf(name, m.below(3))
		if depth > 1 && room > 1 && m.below(2) == 0 {
			f = group(name, m.below(3), m.fields(depth-1, room-1)...)
		}
		list, room = append(list, f), room-len(f)
	}
	return list
}

func (m *mix) schema() api.Schema { return root(m.fields(api.MaxDepth, api.MaxFields-1)...) }

// value makes one of the field at a place; each leaf's value is another number.
func (m *mix) value(s api.Schema, at int, count *int) (t api.Tree) {
	if s[at].Kind != api.Group {
		*count++
		return api.Tree{N: *count}
	}
	kid := at + 1
	for range s[at].Kids {
		var l []api.Tree
		for range []int{1, m.below(2), m.below(4)}[s[kid].Rep] {
			l = append(l, m.value(s, kid, count))
		}
		t.Kids = append(t.Kids, l)
		kid = past(s, kid)
	}
	return t
}

func (m *mix) records(s api.Schema, many int) (l []api.Tree) {
	count := 0
	for range many {
		l = append(l, m.value(s, 0, &count))
	}
	return l
}

func wantNext(t *testing.T, s api.Schema, want string) {
	t.Helper()
	if got := fmt.Sprint(fsm.Next(s)); got != want {
		t.Errorf("Next(%v): %s, want %s", s, got, want)
	}
}

func wantCommon(t *testing.T, s api.Schema, i, j, want int) {
	t.Helper()
	if got := fsm.Common(s, i, j); got != want {
		t.Errorf("Common(%v, %d, %d): %d, want %d", s, i, j, got, want)
	}
}

// wantByWords asks for all that Next and Common tell of a schema.
func wantByWords(t *testing.T, s api.Schema) {
	t.Helper()
	wantNext(t, s, fmt.Sprint(next(s)))
	l := places(s, 0, len(s))
	for i, a := range l {
		for j, b := range l {
			wantCommon(t, s, i, j, common(s, a, b))
		}
		for _, none := range []int{math.MinInt, -1, len(l), math.MaxInt} {
			wantCommon(t, s, i, none, 0)
			wantCommon(t, s, none, i, 0)
		}
	}
}

func TestP1501Example(t *testing.T) {
	wantNext(t, root(leaf("a", 0)), "[[1]]")
}

func TestP1501CommonOfPaper(t *testing.T) {
	for i, row := range [][]int{{0, 0, 0, 0, 0, 0}, {0, 1, 0, 0, 0, 0}, {0, 0, 1, 0, 0, 0}, {0, 0, 0, 2, 2, 1}, {0, 0, 0, 2, 2, 1}, {0, 0, 0, 1, 1, 1}} {
		for j, want := range row {
			wantCommon(t, paper(), i, j, want)
		}
	}
}

func TestP1501CommonCountsTheLeafItself(t *testing.T) {
	s := root(leaf("a", 0), leaf("b", 1), leaf("c", 2), group("p", 2, leaf("d", 2)))
	for i, want := range []int{0, 0, 1, 2} {
		wantCommon(t, s, i, i, want)
	}
	// Two leaves are never in the same one because both are Repeated.
	wantCommon(t, root(leaf("a", 2), leaf("b", 2)), 0, 1, 0)
	wantCommon(t, root(group("p", 2, leaf("a", 2), leaf("b", 2))), 0, 1, 1)
}

func TestP1501CommonOfNoLeaf(t *testing.T) {
	// Indices are those of leaves, not of fields: paper has 10 fields and 6 leaves.
	s := paper()
	for _, none := range []int{math.MinInt, -7, -1, 6, 7, 9, 10, 40, 1 << 32, math.MaxInt} {
		for i := range 6 {
			wantCommon(t, s, i, none, 0)
			wantCommon(t, s, none, i, 0)
		}
		wantCommon(t, s, none, none, 0)
	}
	wantCommon(t, s, 5, 3, 1)
	wantCommon(t, s, 4, 4, 2)
}

func TestP1501CommonOfGroupsThatAreAlike(t *testing.T) {
	// The same names, the same Reps: still other fields.
	q := group("q", 2, leaf("a", 2))
	s := root(group("p", 2, q), group("r", 2, q, group("s", 2, leaf("a", 2))))
	for i, row := range [][]int{{3, 0, 0}, {0, 3, 1}, {0, 1, 3}} {
		for j, want := range row {
			wantCommon(t, s, i, j, want)
		}
	}
}

func TestP1501Next(t *testing.T) {
	for _, c := range []struct {
		s    api.Schema
		want string
	}{
		{paper(), "[[1] [2 1] [3 2] [4 4 4] [5 5 3] [6 3]]"},
		{root(leaf("a", 1)), "[[1]]"},
		{root(leaf("a", 2)), "[[1 0]]"},
		{root(leaf("a", 0), leaf("b", 0), leaf("c", 1)), "[[1] [2] [3]]"},
		{root(leaf("a", 2), leaf("b", 2), leaf("c", 2)), "[[1 0] [2 1] [3 2]]"},
		{root(group("p", 2, leaf("a", 0))), "[[1 0]]"},
		{root(group("p", 0, leaf("a", 2))), "[[1 0]]"},
		{root(group("p", 2, leaf("a", 2))), "[[1 0 0]]"},
		{root(group("p", 2, leaf("a", 0), leaf("b", 1), leaf("c", 0))), "[[1 1] [2 2] [3 0]]"},
		{root(group("p", 2, leaf("a", 2), leaf("b", 2))), "[[1 1 0] [2 0 1]]"},
		{root(leaf("a", 0), group("p", 2, leaf("b", 0), leaf("c", 2)), leaf("d", 2)), "[[1] [2 2] [3 1 2] [4 3]]"},
		{root(group("p", 2, leaf("a", 0), group("q", 2, leaf("b", 0), leaf("c", 0))), leaf("d", 0)), "[[1 1] [2 2 2] [3 0 1] [4]]"},
		{root(group("p", 2, leaf("a", 0)), group("q", 2, leaf("b", 0)), group("r", 2, leaf("c", 0))), "[[1 0] [2 1] [3 2]]"},
		{root(group("p", 2, group("q", 2, group("r", 2, leaf("a", 2), leaf("b", 0)), leaf("c", 0)), leaf("d", 0))), "[[1 1 1 1 0] [2 2 2 0] [3 3 0] [4 0]]"},
		{root(leaf("x", 0), group("p", 2, group("q", 2, group("r", 2, leaf("a", 0))))), "[[1] [2 1 1 1]]"},
	} {
		wantNext(t, c.s, c.want)
		wantByWords(t, c.s)
	}
}

func TestP1501EveryChain(t *testing.T) {
	// A leaf in so many groups, each of every Rep, alone and beside others.
	for fields := 1; fields <= 5; fields++ {
		times := 1
		for range fields {
			times *= 3
		}
		for reps := range times {
			chain, wide := leaf("a", reps%3), leaf("a", reps%3)
			for rest, n := reps/3, 1; n < fields; rest, n = rest/3, n+1 {
				chain = group("a", rest%3, chain)
				wide = group("a", rest%3, leaf("b", n%3), wide, leaf("c", 0))
			}
			wantByWords(t, root(chain))
			wantByWords(t, root(wide))
			wantByWords(t, root(wide, leaf("b", 2), group("c", 2, chain)))
		}
	}
}

func TestP1501GreatSchemas(t *testing.T) {
	deep, two := leaf("a", 2), []api.Schema{leaf("b", 2), leaf("c", 2)}
	for range api.MaxDepth - 1 {
		deep = group("a", 2, deep)
	}
	wantNext(t, root(deep), "[[1 0 0 0 0 0 0 0 0]]")
	wantByWords(t, root(append(two, deep)...))
	wantByWords(t, root(append([]api.Schema{deep}, two...)...))

	var leaves, groups []api.Schema
	for i := range api.MaxFields - 1 {
		leaves = append(leaves, leaf(fmt.Sprint("a", i), 2))
	}
	wantByWords(t, root(leaves...))
	wantByWords(t, root(group("p", 2, leaves[1:]...)))
	for i := range (api.MaxFields - 1) / 3 {
		groups = append(groups, group(fmt.Sprint("a", i), 2, two...))
	}
	wantByWords(t, root(groups...))
}

func TestP1501AnySchemas(t *testing.T) {
	m := seed
	leaves, deepest := 0, 0
	for range 250 {
		s := m.schema()
		wantByWords(t, s)
		for _, row := range fsm.Next(s) {
			leaves, deepest = leaves+1, max(deepest, len(row)-1)
		}
	}
	if leaves < 2000 || deepest < 5 {
		t.Errorf("only %d leaves, R at most %d", leaves, deepest)
	}
}

func TestP1501RowsAreThoseOfTheLeaves(t *testing.T) {
	m := seed
	for range 500 {
		s := m.schema()
		leaves, all := schema.Leaves(s), fsm.Next(s)
		if len(all) != len(leaves) {
			t.Fatalf("Next(%v): %d rows, want %d", s, len(all), len(leaves))
		}
		for i, row := range all {
			if len(row) != leaves[i].R+1 || row[0] != i+1 || slices.Min(row) < 0 || slices.Max(row) > i+1 {
				t.Errorf("Next(%v): %v of leaf %d, whose R is %d", s, row, i, leaves[i].R)
			}
		}
	}
}

// seen is a cell as it was read: of which leaf, and the value, or that there is none.
type seen struct {
	leaf, n int
	has     bool
}

// walk tells the cells of what is there of the field at a place, as they lie in a record.
func walk(s api.Schema, at int, l []api.Tree) (all []seen) {
	if len(l) == 0 {
		for _, a := range places(s, at, past(s, at)) {
			all = append(all, seen{leaf: a})
		}
	}
	for _, t := range l {
		if s[at].Kind != api.Group {
			all = append(all, seen{at, t.N, true})
		}
		kid := at + 1
		for _, inside := range t.Kids {
			all = append(all, walk(s, kid, inside)...)
			kid = past(s, kid)
		}
	}
	return all
}

// read reads one record's cells, as Next says, and takes them from the columns.
func read(leaves []api.Leaf, columns []api.Column, all [][]int) (got []seen) {
	for i := 0; i < len(leaves); {
		c := &columns[i]
		x := seen{leaf: leaves[i].Field, has: c.D[0] == leaves[i].D}
		if x.has {
			x.n, c.V = c.V[0].N, c.V[1:]
		}
		got = append(got, x)
		c.R, c.D = c.R[1:], c.D[1:]
		r := 0
		if len(c.R) > 0 {
			r = c.R[0]
		}
		i = all[i][r]
	}
	return got
}

func wantRead(t *testing.T, s api.Schema, l []api.Tree) (cells int) {
	t.Helper()
	columns, e := shred.Columns(s, l)
	if e != api.OK {
		t.Fatalf("Columns(%v, %v): %v", s, l, e)
	}
	leaves, all := schema.Leaves(s), fsm.Next(s)
	for _, r := range l {
		got, want := read(leaves, columns, all), walk(s, 0, []api.Tree{r})
		if !slices.Equal(got, want) {
			t.Errorf("of %v, %v: %v were read, want %v", s, r, got, want)
		}
		cells += len(got)
	}
	for i, c := range columns {
		if len(c.R)+len(c.D)+len(c.V) > 0 {
			t.Errorf("of %v, %v: leaf %d was not read to its end: %v", s, l, i, c)
		}
	}
	return cells
}

func TestP1502Paper(t *testing.T) {
	n := func(l ...int) (t []api.Tree) {
		for _, v := range l {
			t = append(t, api.Tree{N: v})
		}
		return t
	}
	g := func(fields ...[]api.Tree) api.Tree { return api.Tree{Kids: fields} }
	some := func(l ...api.Tree) []api.Tree { return l }
	wantRead(t, paper(), some(
		g(n(1), some(g(nil, n(2, 3, 4))), some(
			g(some(g(n(5), n(6)), g(n(7), nil)), n(8)),
			g(nil, n(9)),
			g(some(g(n(10), n(11))), nil))),
		g(n(12), nil, nil),
		g(n(13), some(g(n(14, 15), n(16))), some(g(nil, n(17)))),
		g(n(18), some(g(nil, nil)), some(g(nil, nil), g(nil, nil)))))
	wantRead(t, paper(), nil)
}

func TestP1502AnyRecords(t *testing.T) {
	m := seed
	cells := 0
	for range 1500 {
		s := m.schema()
		cells += wantRead(t, s, m.records(s, m.below(5)))
	}
	if cells < 50000 {
		t.Errorf("only %d cells", cells)
	}
}

func TestP1502EveryChain(t *testing.T) {
	m := seed
	for reps := range 81 {
		s := root(group("p", reps%3, leaf("a", 1), group("q", reps/3%3, group("r", reps/9%3, leaf("b", reps/27), leaf("c", 2)), leaf("d", 0))), leaf("e", 2))
		for range 10 {
			wantRead(t, s, m.records(s, 3))
		}
	}
}

func TestP1NoSchemas(t *testing.T) {
	m := seed
	strange := []int{math.MinInt, -1 << 62, -2, -1, 0, 0, 0, 0, 1, 1, 1, 2, 2, 3, 4, 5, 40, 1 << 62, math.MaxInt}
	ends := []int{math.MinInt, -1, 0, 1, 2, 3, 5, 40, math.MaxInt}
	for range 5000 {
		s := make(api.Schema, m.below(60))
		for i := range s {
			s[i] = api.Field{Name: fmt.Sprint("a", i), Rep: pick(&m, strange...), Kind: pick(&m, strange...), Kids: pick(&m, strange...)}
		}
		fsm.Next(s)
		fsm.Common(s, pick(&m, ends...), pick(&m, ends...))
	}
	for _, s := range []api.Schema{nil, {}, root(), leaf("a", 2), paper()[:5], paper()[1:], {{Name: "m", Kids: 99}}, append(leaf("a", 2), leaf("b", 2)...), append(paper(), paper()...), slices.Repeat(leaf("a", 2), 200000), slices.Repeat(group("a", 2, nil), 200000)} {
		if got := fsm.Next(s); len(got) > 0 {
			t.Errorf("Next of %d fields that are no schema: %v", len(s), got)
		}
		for _, i := range ends {
			for _, j := range ends {
				if got := fsm.Common(s, i, j); got != 0 {
					t.Errorf("Common of %d fields that are no schema: %d", len(s), got)
				}
			}
		}
	}
}

func TestP2ArgumentsAreLeft(t *testing.T) {
	room := append(paper(), paper()...)
	s := room[:len(paper())]
	fsm.Next(s)
	for i := range 7 {
		fsm.Common(s, i, 6-i)
	}
	fsm.Next(room)
	if !slices.Equal(room, append(paper(), paper()...)) {
		t.Errorf("the schema was changed: %v", room)
	}
}

func TestP2ResultsAreNew(t *testing.T) {
	m := seed
	for range 200 {
		s := m.schema()
		a, b := fsm.Next(s), fsm.Next(s)
		for i, row := range a {
			row = row[:cap(row)]
			for k := range row {
				row[k] = -1 - i
			}
		}
		for i, row := range a {
			for _, to := range row[:cap(row)] {
				if to != -1-i {
					t.Fatalf("Next(%v): row %d shares its memory: %v", s, i, row)
				}
			}
		}
		clear(a[:cap(a)])
		for _, got := range [][][]int{b, fsm.Next(s)} {
			if fmt.Sprint(got) != fmt.Sprint(next(s)) {
				t.Fatalf("Next(%v): %v changed with another answer", s, got)
			}
		}
	}
}

func TestP3TheSameCalls(t *testing.T) {
	for range 3 {
		wantByWords(t, paper())
		wantByWords(t, root(leaf("a", 2)))
		wantNext(t, nil, "[]")
		wantCommon(t, paper(), 3, 4, 2)
		wantCommon(t, paper(), 3, 6, 0)
	}
}
