package tree_test

import (
	"bytes"
	"fmt"
	"math"
	"slices"
	"strings"
	"testing"

	"shredder/api"
	"shredder/schema"
	"shredder/tree"
)

// leaf, group tell fields as they lie in a schema: a group's own ones behind it.
func leaf(name string, rep, kind int) api.Schema {
	return api.Schema{{Name: name, Rep: rep, Kind: kind}}
}

func group(name string, rep int, inside ...api.Schema) api.Schema {
	s := api.Schema{{Name: name, Rep: rep, Kind: api.Group, Kids: len(inside)}}
	for _, x := range inside {
		s = append(s, x...)
	}
	return s
}

// paper has groups side by side and in one another, of every Rep, and leaves of every kind.
func paper() api.Schema {
	return group("doc", api.Required,
		leaf("id", api.Required, api.Int64),
		group("links", api.Optional,
			leaf("back", api.Repeated, api.Int64),
			leaf("fore", api.Repeated, api.Int32)),
		group("name", api.Repeated,
			group("lang", api.Required,
				leaf("code", api.Required, api.Bytes),
				leaf("land", api.Optional, api.Bytes)),
			leaf("url", api.Optional, api.Bytes)),
		leaf("old", api.Optional, api.Bool))
}

// n, x, g are values: numbers, strings, and a group with what is there of each of its fields.
func n(l ...int) (t []api.Tree) {
	for _, v := range l {
		t = append(t, api.Tree{N: v})
	}
	return t
}

func x(l ...string) (t []api.Tree) {
	for _, v := range l {
		t = append(t, api.Tree{S: v})
	}
	return t
}

func g(fields ...[]api.Tree) api.Tree { return api.Tree{Kids: fields} }

// some are trees as a list.
func some(l ...api.Tree) []api.Tree { return l }

// print is a record of paper: 13 values, and the record itself.
func print() api.Tree {
	return g(n(10),
		some(g(n(20, 40), nil)),
		some(
			g(some(g(x("en"), x("us"))), x("http")),
			g(some(g(x(""), nil)), nil)),
		n(1))
}

// shown is a tree in words: those of trees that differ differ, and a list that is nil and one that is empty are the same.
func shown(t api.Tree) string {
	words := fmt.Sprintf("%d %q (", t.N, t.S)
	for _, l := range t.Kids {
		words += "["
		for _, v := range l {
			words += shown(v) + ","
		}
		words += "]"
	}
	return words + ")"
}

// size is Size by its words.
func size(t api.Tree) int {
	n := 1
	for _, l := range t.Kids {
		for _, v := range l {
			n += size(v)
		}
	}
	return n
}

// copied is a tree that shares nothing with t; where a list is empty, it is nil in one and not in the other.
func copied(t api.Tree) api.Tree {
	c := api.Tree{N: t.N, S: strings.Clone(t.S)}
	if t.Kids == nil {
		c.Kids = [][]api.Tree{}
	}
	for _, l := range t.Kids {
		var kept []api.Tree
		if l == nil {
			kept = []api.Tree{}
		}
		for _, v := range l {
			kept = append(kept, copied(v))
		}
		c.Kids = append(c.Kids, kept)
	}
	return c
}

// past is where the field behind one and all in it is.
func past(s api.Schema, at int) int {
	next := at + 1
	for range s[at].Kids {
		next = past(s, next)
	}
	return next
}

// faults are all errors of a value of the field at a place, in the order in which the chapter tells them.
func faults(s api.Schema, at int, t api.Tree) (l []api.Errno) {
	is := func(wrong bool, e api.Errno) {
		if wrong {
			l = append(l, e)
		}
	}
	f := s[at]
	if f.Kind != api.Group {
		is(len(t.Kids) != 0, api.ErrShape)
		is(f.Kind == api.Bytes && t.N != 0, api.ErrShape)
		is(f.Kind != api.Bytes && t.S != "", api.ErrShape)
		is(f.Kind == api.Bool && t.N != 0 && t.N != 1, api.ErrOver)
		is(f.Kind == api.Int32 && (t.N > math.MaxInt32 || t.N < math.MinInt32), api.ErrOver)
		is(len(t.S) > 100, api.ErrLong)
		return l
	}
	is(t.N != 0 || t.S != "", api.ErrShape)
	is(len(t.Kids) != f.Kids, api.ErrShape)
	if len(l) > 0 {
		return l
	}
	at++
	for _, kids := range t.Kids {
		is(s[at].Rep != api.Repeated && len(kids) > 1, api.ErrShape)
		is(s[at].Rep == api.Required && len(kids) < 1, api.ErrShape)
		is(len(kids) > 50, api.ErrMany)
		for _, v := range kids {
			l = append(l, faults(s, at, v)...)
		}
		at = past(s, at)
	}
	return l
}

// fault is Fits by its words.
func fault(s api.Schema, t api.Tree) api.Errno { return append(faults(s, 0, t), api.OK)[0] }

// mix tells numbers in whose bits there is no order to be seen.
type mix uint64

const seed = mix(88172645463325252)

func (m *mix) below(n int) int {
	*m ^= *m << 13
	*m ^= *m >> 7
	*m ^= *m << 17
	return int(*m >> 1 % mix(n))
}

// fields makes a group of at least one field: at most room in all, no deeper than depth says.
func (m *mix) fields(depth, room int) (list []api.Schema) {
	for room > 0 && (len(list) == 0 || m.below(4) > 0) {
		name := fmt.Sprint("a", len(list))
		f := leaf(name, m.below(3), 1+m.below(4))
		if depth > 1 && room > 1 && m.below(2) == 0 {
			f = group(name, m.below(3), m.fields(depth-1, room-1)...)
		}
		list, room = append(list, f), room-len(f)
	}
	return list
}

func (m *mix) schema() api.Schema {
	return group("m", api.Required, m.fields(api.MaxDepth, api.MaxFields-1)...)
}

func pick[T any](m *mix, l ...T) T { return l[m.below(len(l))] }

func (m *mix) number(kind int) int {
	switch kind {
	case api.Bool:
		return m.below(2)
	case api.Int32:
		return pick(m, math.MinInt32, -1, 0, 1, math.MaxInt32)
	}
	return pick(m, math.MinInt64, math.MinInt32-1, -1, 0, 1, math.MaxInt32+1, math.MaxInt64)
}

// value makes one of the field at a place.
func (m *mix) value(s api.Schema, at int) (t api.Tree) {
	switch s[at].Kind {
	case api.Group:
	case api.Bytes:
		return api.Tree{S: strings.Repeat(pick(m, "y", "\xff", "\u00e9"), pick(m, 0, 1, 2, 50))}
	default:
		return api.Tree{N: m.number(s[at].Kind)}
	}
	kid := at + 1
	for range s[at].Kids {
		l := make([]api.Tree, []int{1, m.below(2), m.below(4)}[s[kid].Rep])
		for k := range l {
			l[k] = m.value(s, kid)
		}
		t.Kids = append(t.Kids, l)
		kid = past(s, kid)
	}
	return t
}

func (m *mix) record(s api.Schema) api.Tree { return m.value(s, 0) }

// all are the values of a tree.
func all(t *api.Tree) []*api.Tree {
	l := []*api.Tree{t}
	for _, kids := range t.Kids {
		for k := range kids {
			l = append(l, all(&kids[k])...)
		}
	}
	return l
}

// spoil changes one value of a tree, so that it is often no record.
func (m *mix) spoil(t *api.Tree) {
	v := pick(m, all(t)...)
	list := func() *[]api.Tree {
		if len(v.Kids) == 0 {
			v.Kids = [][]api.Tree{nil}
		}
		return &v.Kids[m.below(len(v.Kids))]
	}
	switch m.below(8) {
	case 0, 1:
		v.N = pick(m, math.MinInt64, math.MinInt32-1, math.MinInt32, -1, 1, 2, math.MaxInt32, math.MaxInt32+1, math.MaxInt64, 1<<32, 1<<32+1)
	case 2:
		v.S = strings.Repeat("z", pick(m, 1, 99, 100, 101, 200))
	case 3:
		v.Kids = append(v.Kids, nil)
	case 4:
		v.Kids = v.Kids[:m.below(len(v.Kids)+1)]
	case 5:
		*list() = nil
	case 6:
		l := list()
		*l = append(*l, api.Tree{N: m.below(2)})
	case 7:
		l := list()
		for many := pick(m, 2, 49, 50, 51, 52); len(*l) > 0 && len(*l) < many; {
			*l = append(*l, copied((*l)[0]))
		}
	}
}

func wantFits(t *testing.T, s api.Schema, r api.Tree, want api.Errno) {
	t.Helper()
	if got := tree.Fits(s, r); got != want {
		t.Errorf("Fits(%v, %s): %v, want %v", s, shown(r), got, want)
	}
}

// wantLeaf asks for records whose one leaf is of a kind, and has a value.
func wantLeaf(t *testing.T, kind int, v api.Tree, want api.Errno) {
	t.Helper()
	for rep := range 3 {
		wantFits(t, group("m", 0, leaf("a", rep, kind)), g(some(v)), want)
		wantFits(t, group("m", 0, group("g", rep, leaf("b", 0, api.Bool), leaf("a", 2, kind)), leaf("z", 1, api.Bool)), g(some(g(n(1), some(v))), nil), want)
	}
}

func TestP801Records(t *testing.T) {
	if e := schema.Check(paper()); e != api.OK {
		t.Fatal(e)
	}
	wantFits(t, paper(), print(), api.OK)
	wantFits(t, paper(), g(n(0), nil, nil, nil), api.OK)
	wantFits(t, paper(), g(n(0), some(g(nil, nil)), nil, nil), api.OK)
	wantFits(t, paper(), g(n(0), []api.Tree{}, []api.Tree{}, []api.Tree{}), api.OK)
}

func TestP801Example(t *testing.T) {
	s := group("m", 0, leaf("a", api.Optional, api.Int32))
	wantFits(t, s, g(nil), api.OK)
	wantFits(t, s, g([]api.Tree{}), api.OK)
	wantFits(t, s, g(), api.ErrShape)
	wantFits(t, s, api.Tree{}, api.ErrShape)
}

func TestP801Groups(t *testing.T) {
	for rep := range 3 {
		s := group("m", 0, group("g", rep, leaf("a", 1, api.Bool), leaf("b", 1, api.Bytes)))
		for _, z := range []struct {
			v    api.Tree
			want api.Errno
		}{
			{g(nil, nil), api.OK},
			{g(n(1), x("")), api.OK},
			{g(), api.ErrShape},
			{g(nil), api.ErrShape},
			{g(nil, nil, nil), api.ErrShape},
			{api.Tree{N: 1, Kids: [][]api.Tree{nil, nil}}, api.ErrShape},
			{api.Tree{N: -1, Kids: [][]api.Tree{nil, nil}}, api.ErrShape},
			{api.Tree{N: 1 << 32, Kids: [][]api.Tree{nil, nil}}, api.ErrShape},
			{api.Tree{S: "x", Kids: [][]api.Tree{nil, nil}}, api.ErrShape},
			{api.Tree{S: "\x00", Kids: [][]api.Tree{nil, nil}}, api.ErrShape},
			{api.Tree{S: strings.Repeat("x", 101), Kids: [][]api.Tree{nil, nil}}, api.ErrShape},
			// It is asked ahead of what is in it.
			{g(n(2)), api.ErrShape},
			{g(n(2), nil, nil), api.ErrShape},
			{api.Tree{N: 1, Kids: [][]api.Tree{n(2), nil}}, api.ErrShape},
		} {
			wantFits(t, s, g(some(z.v)), z.want)
		}
	}
	s := group("m", 0, leaf("a", 1, api.Bool), leaf("b", 1, api.Bytes))
	wantFits(t, s, g(nil, nil), api.OK)
	wantFits(t, s, api.Tree{N: 1, Kids: [][]api.Tree{nil, nil}}, api.ErrShape)
	wantFits(t, s, api.Tree{S: "x", Kids: [][]api.Tree{nil, nil}}, api.ErrShape)
	wantFits(t, s, g(nil, nil, nil), api.ErrShape)
	wantFits(t, s, g(nil), api.ErrShape)
}

func TestP801HowOften(t *testing.T) {
	times := func(n int, v api.Tree) []api.Tree { return slices.Repeat(some(v), n) }
	for _, n := range []int{0, 1, 2, 3, 49, 50, 51, 52, 100, 1000} {
		for rep := range 3 {
			want := api.OK
			switch {
			case rep == api.Required && n != 1, rep == api.Optional && n > 1:
				want = api.ErrShape
			case n > 50:
				want = api.ErrMany
			}
			for kind := 1; kind <= 4; kind++ {
				wantFits(t, group("m", 0, leaf("a", rep, kind)), g(times(n, api.Tree{})), want)
			}
			wantFits(t, group("m", 0, group("g", rep, leaf("a", 1, 1))), g(times(n, g(nil))), want)
			wantFits(t, group("m", 0, group("g", 2, leaf("a", rep, 1))), g(some(g(times(n, api.Tree{})))), want)
		}
	}
	// The bound is one list's.
	s := group("m", 0, group("g", 2, leaf("a", 2, api.Bool)))
	wantFits(t, s, g(times(50, g(times(50, api.Tree{N: 1})))), api.OK)
}

func TestP801Leaves(t *testing.T) {
	hundred := strings.Repeat("\xff", 100)
	numbers := []int{math.MinInt64, math.MinInt32 - 1, math.MinInt32, -256, -2, -1, 0, 1, 2, 3, 255, 256, math.MaxInt32, math.MaxInt32 + 1, 1 << 32, 1<<32 + 1, math.MaxInt64}
	for _, v := range numbers {
		is := func(right bool, e api.Errno) api.Errno {
			if right {
				return api.OK
			}
			return e
		}
		wantLeaf(t, api.Bool, api.Tree{N: v}, is(v == 0 || v == 1, api.ErrOver))
		wantLeaf(t, api.Int32, api.Tree{N: v}, is(v >= -1<<31 && v < 1<<31, api.ErrOver))
		wantLeaf(t, api.Int64, api.Tree{N: v}, api.OK)
		wantLeaf(t, api.Bytes, api.Tree{N: v}, is(v == 0, api.ErrShape))
		wantLeaf(t, api.Bytes, api.Tree{N: v, S: "x"}, is(v == 0, api.ErrShape))
		for kind := 1; kind <= 4; kind++ {
			// What has Kids is of another shape, whatever else is wrong.
			wantLeaf(t, kind, api.Tree{N: v, Kids: [][]api.Tree{nil}}, api.ErrShape)
			wantLeaf(t, kind, api.Tree{N: v, S: hundred + "x", Kids: [][]api.Tree{n(1)}}, api.ErrShape)
			if kind != api.Bytes {
				wantLeaf(t, kind, api.Tree{N: v, S: "x"}, api.ErrShape)
				wantLeaf(t, kind, api.Tree{N: v, S: hundred + "x"}, api.ErrShape)
			}
		}
		if v != 0 {
			wantLeaf(t, api.Bytes, api.Tree{N: v, S: hundred + "x"}, api.ErrShape)
		}
	}
	for _, s := range []string{"", "\x00", "a", "\xff", "\u00e9", hundred[:99], hundred, strings.Repeat("\u00e9", 50)} {
		wantLeaf(t, api.Bytes, api.Tree{S: s}, api.OK)
		wantLeaf(t, api.Bytes, api.Tree{S: s, Kids: [][]api.Tree{}}, api.OK)
	}
	for _, s := range []string{hundred + "x", strings.Repeat("\u00e9", 51), strings.Repeat("a", 1<<16)} {
		wantLeaf(t, api.Bytes, api.Tree{S: s}, api.ErrLong)
	}
}

func TestP801TheFirstError(t *testing.T) {
	s := group("m", 0,
		leaf("b", 1, api.Bool),
		group("g", 2, leaf("l", 2, api.Int32), leaf("s", 2, api.Bytes)),
		leaf("z", 0, api.Int64))
	over, long, many := n(2), x(strings.Repeat("x", 101)), make([]api.Tree, 51)
	for _, z := range []struct {
		r    api.Tree
		want api.Errno
	}{
		// Field by field: what is wrong within one goes ahead of how often the next one is there.
		{g(over, nil, nil), api.ErrOver},
		{g(over, some(g()), n(1)), api.ErrOver},
		{g(nil, some(g(nil, long)), nil), api.ErrLong},
		{g(nil, some(g(many, long)), nil), api.ErrMany},
		{g(nil, some(g(nil, many), g()), nil), api.ErrMany},
		{g(nil, some(g(nil, nil), g(), g(many, nil)), nil), api.ErrShape},
		{g(nil, some(g(n(1<<31), many), g()), nil), api.ErrOver},
		{g(nil, some(g(nil, nil)), nil), api.ErrShape},
		// How often a field is there goes ahead of its values.
		{g(append(over, over...), nil, n(1)), api.ErrShape},
		{g(nil, slices.Repeat(some(g()), 51), n(1)), api.ErrMany},
		{g(nil, slices.Repeat(some(g()), 50), n(1)), api.ErrShape},
		{g(nil, some(g(nil, append(long, many...))), n(1)), api.ErrMany},
		// The first value that has one decides.
		{g(nil, some(g(n(1<<31, 1), nil), g(nil, long)), n(1)), api.ErrOver},
		{g(nil, some(g(nil, long), g(n(1<<31, 1), nil)), n(1)), api.ErrLong},
		{g(nil, some(g(nil, append(x("a"), long...)), g(n(1<<31, 1), nil)), n(1)), api.ErrLong},
		{g(nil, some(g(nil, append(n(5), long...))), n(1)), api.ErrShape},
		// The group itself goes ahead of all in it.
		{api.Tree{N: 1, Kids: [][]api.Tree{over, nil, n(1)}}, api.ErrShape},
		{g(over, nil), api.ErrShape},
		{g(over, nil, n(1), nil), api.ErrShape},
	} {
		wantFits(t, s, z.r, z.want)
	}
}

func TestP801DeepRecords(t *testing.T) {
	s, r, wrong := leaf("x", 2, api.Int32), n(1, 2), n(1, 1<<31)
	for range 7 {
		s = group("g", 2, leaf("a", 0, api.Bool), s, leaf("b", 1, api.Int32))
		r, wrong = some(g(n(1), r, nil)), some(g(n(1), r, nil), g(n(1), wrong, nil))
	}
	s = group("m", 0, s)
	if schema.Check(s) != api.OK {
		t.Fatal(schema.Check(s))
	}
	wantFits(t, s, g(r), api.OK)
	wantFits(t, s, g(wrong), api.ErrOver)
	wantFits(t, s, r[0], api.ErrShape)
}

func TestP801AnyRecord(t *testing.T) {
	m := seed
	for range 5000 {
		s := m.schema()
		r := m.record(s)
		if fault(s, r) != api.OK {
			t.Fatalf("%s is no record of %v", shown(r), s)
		}
		wantFits(t, s, r, api.OK)
		wantFits(t, s, copied(r), api.OK)
	}
}

func TestP801AnyTree(t *testing.T) {
	m := seed
	seen := map[api.Errno]int{}
	for range 20000 {
		s := m.schema()
		r := m.record(s)
		for range 1 + m.below(3) {
			m.spoil(&r)
		}
		want := fault(s, r)
		seen[want]++
		wantFits(t, s, r, want)
		wantFits(t, s, copied(r), want)
	}
	for _, e := range []api.Errno{api.OK, api.ErrShape, api.ErrMany, api.ErrOver, api.ErrLong} {
		if seen[e] < 20 {
			t.Errorf("%v was asked for %d times", e, seen[e])
		}
	}
}

func TestP801RecordsOfOtherSchemas(t *testing.T) {
	m := seed
	for range 5000 {
		s, other := m.schema(), m.schema()
		r := m.record(other)
		wantFits(t, s, r, fault(s, r))
	}
}

func wantSame(t *testing.T, a, b api.Tree, want bool) {
	t.Helper()
	if tree.Same(a, b) != want || tree.Same(b, a) != want {
		t.Errorf("Same(%s, %s): %v, %v, want %v", shown(a), shown(b), tree.Same(a, b), tree.Same(b, a), want)
	}
}

func TestP802Same(t *testing.T) {
	// No two of them are equal.
	differ := []api.Tree{
		{}, {N: 1}, {N: -1}, {N: 1 << 32}, {N: math.MinInt64}, {S: "x"}, {S: "\x00"}, {S: "\xff"}, {S: "\ufffd"}, {S: "\xfe"}, {N: 1, S: "x"},
		g(nil), g(nil, nil), g(nil, nil, nil), g(some(g())), g(some(g(nil))), g(n(1)), g(x(""), nil), g(nil, x("")), g(x("", "")), g(x(""), x("")),
		g(n(1, 2)), g(n(2, 1)), g(n(1), n(2)), g(n(2), n(1)), g(n(1, 2), nil), g(nil, n(1, 2)), g(n(1, 2, 3)),
		g(some(g(n(1)), g(nil))), g(some(g(nil), g(n(1)))), g(some(g(n(1), nil))), g(some(g(nil, n(1)))), g(some(g(n(1))), nil),
		{N: 1, Kids: [][]api.Tree{nil}}, {S: "x", Kids: [][]api.Tree{nil}}, g(some(api.Tree{N: 1, Kids: [][]api.Tree{nil}})),
		print(), g(some(print())), g(some(print(), print())),
	}
	for i, a := range differ {
		for k, b := range differ {
			wantSame(t, a, b, i == k)
			wantSame(t, a, copied(b), i == k)
		}
	}
	// A list that is nil and one that is empty are the same.
	wantSame(t, api.Tree{}, api.Tree{Kids: [][]api.Tree{}}, true)
	wantSame(t, g(nil), g([]api.Tree{}), true)
}

func TestP802SameLooksAtEachValue(t *testing.T) {
	one, other := print(), print()
	for i, v := range all(&one) {
		for _, change := range []func(v *api.Tree){
			func(v *api.Tree) { v.N++ },
			func(v *api.Tree) { v.S += "x" },
			func(v *api.Tree) { v.Kids = append(v.Kids[:len(v.Kids):len(v.Kids)], nil) },
			func(v *api.Tree) { v.Kids = append([][]api.Tree{nil}, v.Kids...) },
			func(v *api.Tree) { v.Kids = append([][]api.Tree{some(api.Tree{})}, v.Kids...) },
		} {
			was := *v
			change(v)
			wantSame(t, one, other, false)
			*v = was
		}
		if v = all(&one)[i]; len(v.Kids) > 0 {
			was := v.Kids
			v.Kids = v.Kids[:len(v.Kids)-1]
			wantSame(t, one, other, false)
			v.Kids = was
		}
		wantSame(t, one, other, true)
	}
}

func TestP802AnyTrees(t *testing.T) {
	m := seed
	differ := 0
	for range 5000 {
		a := m.record(m.schema())
		b := copied(a)
		wantSame(t, a, b, true)
		m.spoil(&b)
		want := shown(a) == shown(b)
		wantSame(t, a, b, want)
		other := m.record(m.schema())
		wantSame(t, a, other, shown(a) == shown(other))
		for _, r := range []api.Tree{a, b} {
			if got, want := tree.Size(r), size(r); got != want {
				t.Errorf("Size(%s): %d, want %d", shown(r), got, want)
			}
		}
		if !want {
			differ++
		}
	}
	if differ < 1000 {
		t.Errorf("only %d differ", differ)
	}
}

func TestP802Size(t *testing.T) {
	for _, z := range []struct {
		r    api.Tree
		want int
	}{
		{api.Tree{}, 1}, {api.Tree{N: 5, S: "x"}, 1}, {g(), 1}, {g(nil), 1}, {g(nil, nil, nil), 1}, {g(n(0)), 2}, {g(nil, x("")), 2}, {g(n(1, 2)), 3},
		{g(n(1), n(2)), 3}, {g(some(g())), 2}, {g(some(g(nil), g(nil))), 3}, {g(some(g(n(1, 2), nil, n(3)))), 5}, {print(), 14}, {g(some(print(), print()), nil, some(print())), 43},
	} {
		if got := tree.Size(z.r); got != z.want {
			t.Errorf("Size(%s): %d, want %d", shown(z.r), got, z.want)
		}
	}
}

// chain is a tree of n values, each in the one ahead of it; the innermost one has the number v.
func chain(n, v int) api.Tree {
	t := api.Tree{N: v}
	for range n - 1 {
		t = g(some(t))
	}
	return t
}

// wide is a tree of n values, each in the first one, in one list; apart is one with a list for each.
func wide(n, v int) api.Tree {
	l := make([]api.Tree, n-1)
	l[n-2].N = v
	return g(l)
}

func apart(n, v int) api.Tree {
	var t api.Tree
	for range n - 2 {
		t.Kids = append(t.Kids, make([]api.Tree, 1), nil)
	}
	t.Kids = append(t.Kids, some(api.Tree{N: v}))
	return t
}

// bushy is a tree of n values, at most three in each.
func bushy(n, v int) api.Tree {
	if n == 1 {
		return api.Tree{N: v}
	}
	last := (n + 1) / 3
	t := g(nil, some(bushy(last, v)))
	for rest := n - 1 - last; rest > 0; rest -= last {
		t.Kids[0] = append(t.Kids[0], bushy(min(rest, last), 0))
	}
	return t
}

func TestP802GreatTrees(t *testing.T) {
	made := []func(n, v int) api.Tree{chain, wide, apart, bushy}
	for i, make := range made {
		for _, n := range []int{2, 3, 10, 100, 9999, 10000} {
			a := make(n, 1)
			if got := tree.Size(a); got != n {
				t.Errorf("%d: Size: %d, want %d", i, got, n)
			}
			if !tree.Same(a, make(n, 1)) {
				t.Errorf("%d, %d values: Same: false", i, n)
			}
			if tree.Same(a, make(n, 2)) || tree.Same(make(n, 2), a) || tree.Same(a, make(n+1, 1)) || tree.Same(make(n+1, 1), a) {
				t.Errorf("%d, %d values: Same: true", i, n)
			}
		}
	}
	// Lists in which nothing is are no values.
	if a, b := g(make([][]api.Tree, 100000)...), g(make([][]api.Tree, 100001)...); tree.Size(a) != 1 || !tree.Same(a, copied(a)) || tree.Same(a, b) || tree.Same(b, a) {
		t.Errorf("Size %d, Same %v, %v", tree.Size(a), tree.Same(a, a), tree.Same(a, b))
	}
}

func TestP802GreatRecords(t *testing.T) {
	// Any record that becomes columns may be asked for, also one of more values than are promised.
	var groups []api.Schema
	var r api.Tree
	for k := range 19 {
		groups = append(groups, group(fmt.Sprint("g", k), 2, leaf("a", 2, api.Int32)))
		r.Kids = append(r.Kids, slices.Repeat(some(g(make([]api.Tree, 50))), 50))
	}
	other := copied(r)
	other.Kids[18][49].Kids[0][49].N = 1
	wantFits(t, group("m", 0, groups...), r, api.OK)
	if got, want := tree.Size(r), 1+19*50*51; got != want || !tree.Same(r, copied(r)) || tree.Same(r, other) {
		t.Errorf("Size %d, want %d, Same %v, %v", got, want, tree.Same(r, copied(r)), tree.Same(r, other))
	}
}

func sign(n int) int { return max(-1, min(1, n)) }

// told is a value in words.
func told(v api.Value) string { return fmt.Sprintf("%d %q", v.N, v.S) }

func wantCompare(t *testing.T, kind int, a, b api.Value, want int) {
	t.Helper()
	if got, back := tree.Compare(kind, a, b), tree.Compare(kind, b, a); got != want || back != -want {
		t.Errorf("Compare(%d, %s, %s): %d, the other way %d, want %d", kind, told(a), told(b), got, back, want)
	}
}

// numbers, texts are in order.
func numbers() []int {
	return []int{math.MinInt64, math.MinInt64 + 1, math.MinInt32 - 1, math.MinInt32, -256, -2, -1, 0, 1, 2, 255, 256, math.MaxInt32, math.MaxInt32 + 1, 1 << 32, 1<<63 - 2, math.MaxInt64}
}

func texts() []string {
	return []string{"", "\x00", "\x00\x00", "\x00a", "A", "a", "a\x00", "a\x00b", "aa", "aaa", "aab", "ab", "a\x7f", "a\x80", "a\u00e9", "a\xff", "b", "z", "z\xff", "\x7f", "\x7f\x80", "\x80", "\x80\x00", "\x80\x80", "\xbf",
		"\xc3", "\xc3\x00", "\xc3a", "\xc3\x80", "\u00e9", "\u00e9\x00", "\u00e9a", "\u00e9\u00e9", "\u00ea", "\xc3\xbf", "\xc3\xff", "\xe2", "\xe2\x82", "\xe2\x82\x00", "\u20ac", "\u20acx", "\xe2\x82\xad", "\xe2\xff", "\uffff"[:2], "\uffff"[:2] + "a", "\ufffc", "\ufffd", "\ufffd\x00", "\ufffda", "\ufffd\ufffd", "\uffff",
		"\xf0", "\xf0\x9f", "\xf0\x9f\x98", "\xf0\x9f\x98\x00", "\U0001f600", "\U0001f600\U0001f600", "\U0001f601", "\U0010ffff", "\xfe", "\xfe\xff", "\xff", "\xff\x00", "\xff\xfe", "\xff\xff", "\xff\xff\x00"}
}

func TestP802CompareNumbers(t *testing.T) {
	l := numbers()
	for i, a := range l {
		for k, b := range l {
			wantCompare(t, api.Int64, api.Value{N: a}, api.Value{N: b}, sign(i-k))
			if min(a, b) >= math.MinInt32 && max(a, b) <= math.MaxInt32 {
				wantCompare(t, api.Int32, api.Value{N: a}, api.Value{N: b}, sign(i-k))
			}
			if min(a, b) >= 0 && max(a, b) <= 1 {
				wantCompare(t, api.Bool, api.Value{N: a}, api.Value{N: b}, sign(i-k))
			}
		}
	}
}

func TestP802CompareTexts(t *testing.T) {
	l := texts()
	for i, a := range l {
		for k, b := range l {
			wantCompare(t, api.Bytes, api.Value{S: a}, api.Value{S: b}, sign(i-k))
			for _, ahead := range []string{"a", "\u00e9", "\xff", "\xc3", "\U0001f600\x80", strings.Repeat("\u20ac\xe2", 20)} {
				wantCompare(t, api.Bytes, api.Value{S: ahead + a}, api.Value{S: ahead + b}, sign(i-k))
			}
		}
	}
	for n := range 100 {
		a, b := strings.Repeat("x", n), strings.Repeat("x", n+1)
		wantCompare(t, api.Bytes, api.Value{S: a}, api.Value{S: b}, -1)
		wantCompare(t, api.Bytes, api.Value{S: b}, api.Value{S: strings.Clone(b)}, 0)
		wantCompare(t, api.Bytes, api.Value{S: a + "y"}, api.Value{S: b}, 1)
	}
}

func TestP802CompareEachByte(t *testing.T) {
	for a := range 256 {
		for b := range 256 {
			for _, ahead := range []string{"", "a", "\xc3", "\xe2\x82", "\xf0\x9f\x98"} {
				one, other := ahead+string([]byte{byte(a)}), ahead+string([]byte{byte(b)})
				wantCompare(t, api.Bytes, api.Value{S: one}, api.Value{S: other}, sign(a-b))
				wantCompare(t, api.Bytes, api.Value{S: one + "z"}, api.Value{S: other + "a"}, sign(2*(a-b)+1))
			}
		}
	}
}

func (m *mix) text() string {
	b := []byte{}
	for range m.below(12) {
		b = append(b, pick(m, "a", "b", "\x00", "\x7f", "\x80", "\xbf", "\xc3", "\xff", "\xfe", "\u00e9", "\u00ea", "\xe2\x82", "\u20ac", "\ufffd", "\xf0\x9f", "\U0001f600")...)
	}
	return string(b)
}

func TestP802CompareAnyTexts(t *testing.T) {
	m := seed
	for range 50000 {
		ahead := m.text()
		a, b := ahead+m.text(), ahead+m.text()
		a, b = a[:m.below(len(a)+1)], b[:m.below(len(b)+1)]
		wantCompare(t, api.Bytes, api.Value{S: a}, api.Value{S: b}, bytes.Compare([]byte(a), []byte(b)))
	}
}

func TestP803TotalOrder(t *testing.T) {
	values := map[int][]api.Value{api.Bool: {{}, {N: 1}}}
	for _, v := range numbers() {
		values[api.Int64] = append(values[api.Int64], api.Value{N: v})
		if v == int(int32(v)) {
			values[api.Int32] = append(values[api.Int32], api.Value{N: v})
		}
	}
	m := seed
	for _, s := range texts() {
		values[api.Bytes] = append(values[api.Bytes], api.Value{S: s}, api.Value{S: m.text()})
	}
	for kind, l := range values {
		for _, a := range l {
			for _, b := range l {
				ab := tree.Compare(kind, a, b)
				if ab != sign(ab) || ab != -tree.Compare(kind, b, a) || (ab == 0) != (a == b) {
					t.Errorf("Compare(%d, %s, %s): %d", kind, told(a), told(b), ab)
				}
				for _, c := range l {
					if ab <= 0 && tree.Compare(kind, b, c) <= 0 && tree.Compare(kind, a, c) > 0 {
						t.Errorf("%d: %s, %s, %s are in no order", kind, told(a), told(b), told(c))
					}
				}
			}
		}
	}
}

// loop is a tree that is in itself, so many times, in so many lists.
func loop(lists, times int) api.Tree {
	t := g(make([][]api.Tree, lists)...)
	for i := range t.Kids {
		t.Kids[i] = slices.Repeat(some(t), times)
	}
	return t
}

// folded is a tree of few lists and many values: two in each, and the same two.
func folded(depth int) api.Tree {
	t := api.Tree{N: 1}
	for range depth {
		t = g(some(t, t))
	}
	return t
}

func TestP1AnyTrees(t *testing.T) {
	great := []api.Tree{loop(1, 1), loop(1, 2), loop(4, 1), loop(2, 50), loop(100, 100), folded(64), folded(1000), chain(3000000, 1), wide(1000000, 1), apart(300000, 1)}
	for _, a := range great {
		tree.Size(a)
		tree.Fits(paper(), a)
		tree.Fits(group("m", 0, leaf("a", 2, api.Bool)), a)
		tree.Fits(group("m", 0, group("b", 2, leaf("a", 2, api.Bool))), a)
		for _, b := range great {
			tree.Same(a, b)
		}
		// One that is within the bounds differs from them.
		wantSame(t, print(), api.Tree{}, false)
		if tree.Same(a, print()) || tree.Same(print(), a) || tree.Same(a, chain(10000, 1)) || tree.Same(chain(10000, 1), a) {
			t.Error("Same: true")
		}
	}
}

func TestP1NoSchemas(t *testing.T) {
	m := seed
	strange := []int{math.MinInt, -1 << 62, -2, -1, 0, 0, 0, 0, 1, 1, 1, 2, 2, 3, 4, 5, 40, 1 << 62, math.MaxInt}
	for range 5000 {
		s := make(api.Schema, m.below(60))
		for i := range s {
			s[i] = api.Field{Name: fmt.Sprint("a", i), Rep: pick(&m, strange...), Kind: pick(&m, strange...), Kids: pick(&m, strange...)}
		}
		tree.Fits(s, print())
		tree.Fits(s, loop(1, 1))
		tree.Fits(s, m.record(m.schema()))
	}
	inside := make(api.Schema, 200000)
	for i := range inside {
		inside[i] = api.Field{Name: "a", Kids: 1}
	}
	for _, s := range []api.Schema{nil, {}, group("m", 0), leaf("a", 0, 1), paper()[:5], paper()[1:], {{Name: "m", Kids: 99}}, append(paper(), paper()...), inside} {
		for _, r := range []api.Tree{{}, print(), g(), g(nil), loop(1, 1), chain(200001, 1)} {
			if tree.Fits(s, r) == api.OK {
				t.Errorf("Fits of %d fields that are no schema: %v", len(s), api.OK)
			}
		}
	}
}

func TestP1AnyKinds(t *testing.T) {
	long := strings.Repeat("\xff\u00e9", 1<<20)
	for _, kind := range []int{math.MinInt, -1, api.Group, api.Bool, api.Int32, api.Int64, api.Bytes, 5, 99, math.MaxInt} {
		for _, a := range []api.Value{{}, {N: 1}, {N: math.MinInt}, {S: "x"}, {N: math.MaxInt, S: "\xff"}, {S: long}, {S: long + "x"}} {
			for _, b := range []api.Value{{}, {N: -5, S: "x"}, {S: long}, {N: math.MaxInt, S: long[1:]}} {
				tree.Compare(kind, a, b)
			}
		}
	}
}

func TestP2ArgumentsAreLeft(t *testing.T) {
	room := append(paper(), paper()...)
	a, b := print(), print()
	for _, r := range []*api.Tree{&a, &b} {
		r.Kids = append(r.Kids, n(7))[:4]
		r.Kids[1] = append(r.Kids[1], n(8)...)[:1]
	}
	was := shown(a)
	tree.Fits(room[:len(paper())], a)
	tree.Fits(room, a)
	tree.Same(a, b)
	tree.Same(a, api.Tree{})
	tree.Size(a)
	if !slices.Equal(room, append(paper(), paper()...)) {
		t.Errorf("the schema was changed: %v", room)
	}
	for _, r := range []api.Tree{a, b} {
		if shown(r) != was || r.Kids[:5][4][0].N != 7 || r.Kids[1][:2][1].N != 8 {
			t.Errorf("the record was changed: %s", shown(r))
		}
	}
}

func TestP3TheSameCalls(t *testing.T) {
	for range 3 {
		wantFits(t, paper(), print(), api.OK)
		wantFits(t, paper(), g(n(1), nil, nil, n(2)), api.ErrOver)
		wantFits(t, nil, print(), api.ErrMany)
		wantSame(t, print(), print(), true)
		wantSame(t, print(), g(nil), false)
		wantSame(t, loop(1, 1), print(), false)
		if got := tree.Size(print()); got != 14 {
			t.Errorf("Size: %d", got)
		}
		wantCompare(t, api.Bytes, api.Value{S: "a"}, api.Value{S: "b"}, -1)
		tree.Size(loop(1, 1))
	}
}
