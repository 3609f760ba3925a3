package schema_test

import (
	"fmt"
	"math"
	"reflect"
	"slices"
	"strings"
	"testing"

	"shredder/api"
	"shredder/schema"
)

// leaf, group tell fields as they lie in a schema: a group's own ones behind it.
func leaf(name string, rep, kind int) api.Schema {
	return api.Schema{{Name: name, Rep: rep, Kind: kind}}
}

func group(name string, rep int, parts ...api.Schema) api.Schema {
	s := api.Schema{{Name: name, Rep: rep, Kind: api.Group, Kids: len(parts)}}
	for _, p := range parts {
		s = append(s, p...)
	}
	return s
}

// root is a group as the first field has to be.
func root(parts ...api.Schema) api.Schema { return group("root", api.Required, parts...) }

// ints are leaves of these names.
func ints(names ...string) (l []api.Schema) {
	for _, n := range names {
		l = append(l, leaf(n, api.Required, api.Int32))
	}
	return l
}

// many is a schema of n fields, at least 2.
func many(n int) api.Schema {
	var names []string
	for k := range n - 1 {
		names = append(names, fmt.Sprint("a", k))
	}
	return root(ints(names...)...)
}

// deep is a schema whose leaf is in n groups.
func deep(n int, rep int) api.Schema {
	s := leaf("x", rep, api.Bool)
	for range n - 1 {
		s = group("g", rep, s)
	}
	return root(s)
}

// paper has groups side by side and in one another, of every Rep, and leaves of every kind.
func paper() api.Schema {
	return group("doc", api.Required,
		leaf("id", api.Required, api.Int64),
		group("links", api.Optional,
			leaf("back", api.Repeated, api.Int64),
			leaf("fore", api.Repeated, api.Int32)),
		group("name", api.Repeated,
			group("lang", api.Repeated,
				leaf("code", api.Required, api.Bytes),
				leaf("land", api.Optional, api.Bytes)),
			leaf("url", api.Optional, api.Bytes)),
		leaf("old", api.Optional, api.Bool))
}

// with is s with one field changed.
func with(s api.Schema, i int, change func(f *api.Field)) api.Schema {
	x := slices.Clone(s)
	change(&x[i])
	return x
}

// mix tells numbers in whose bits there is no order to be seen.
type mix uint64

const seed = mix(88172645463325252)

func (m *mix) below(n int) int {
	*m ^= *m << 13
	*m ^= *m >> 7
	*m ^= *m << 17
	return int(*m >> 1 % mix(n))
}

// name is one that a field may have; the few short ones are often the same.
func (m *mix) name() string {
	const first, other = "abcdefghijklmnopqrstuvwxyz", "abcdefghijklmnopqrstuvwxyz0123456789_"
	if m.below(3) > 0 {
		return first[m.below(3):][:1]
	}
	b := []byte{first[m.below(len(first))]}
	for range m.below(12) {
		b = append(b, other[m.below(len(other))])
	}
	return string(b)
}

// node is a field that has its own ones inside.
type node struct {
	f    api.Field
	kids []*node
}

// node makes one of at most room fields, no deeper than depth says; the names in a group differ.
func (m *mix) node(name string, depth, room int) (n *node, size int) {
	n, size = &node{f: api.Field{Name: name, Rep: m.below(3), Kind: 1 + m.below(4)}}, 1
	if depth == 0 || room < 2 || m.below(2) == 0 {
		return n, size
	}
	n.f.Kind = api.Group
	names := map[string]bool{}
	for size < room && (len(n.kids) == 0 || m.below(4) > 0) {
		name := m.name()
		if names[name] {
			continue
		}
		names[name] = true
		kid, k := m.node(name, depth-1, room-size)
		n.kids, size = append(n.kids, kid), size+k
	}
	n.f.Kids = len(n.kids)
	return n, size
}

// tree makes what is a schema.
func (m *mix) tree() *node {
	n, _ := m.node("root", api.MaxDepth, api.MaxFields)
	for len(n.kids) == 0 {
		n, _ = m.node(m.name(), api.MaxDepth, api.MaxFields)
	}
	n.f.Rep = api.Required
	return n
}

// known is what the tree says of its fields, in their order.
type known struct {
	s       api.Schema
	leaves  []api.Leaf
	parents []int
	paths   []string
}

// list puts n and all in it behind what is known; up are the fields that it is in.
func (k *known) list(n *node, up []int) {
	at := len(k.s)
	k.s = append(k.s, n.f)
	way := append(slices.Clone(up), at)
	l, path := api.Leaf{Field: at, Kind: n.f.Kind}, []string{}
	for _, i := range way {
		switch k.s[i].Rep {
		case api.Repeated:
			l.R++
			l.D++
		case api.Optional:
			l.D++
		}
		if i > 0 {
			path = append(path, k.s[i].Name)
		}
	}
	k.paths = append(k.paths, strings.Join(path, "."))
	k.parents = append(k.parents, append([]int{-1}, up...)[len(up)])
	if n.f.Kind != api.Group {
		k.leaves = append(k.leaves, l)
	}
	for _, kid := range n.kids {
		k.list(kid, way)
	}
}

func (m *mix) known() (k known) {
	k.list(m.tree(), nil)
	return k
}

// checked is Check by its words: each field is taken into the innermost group that lacks one.
func checked(s api.Schema) api.Errno {
	if len(s) == 0 || len(s) > 40 {
		return api.ErrMany
	}
	type open struct {
		lacks int
		names []string
	}
	var up []*open
	for i, f := range s {
		for len(up) > 0 && up[len(up)-1].lacks == 0 {
			up = up[:len(up)-1]
		}
		names := []string{}
		if len(up) > 0 {
			up[len(up)-1].lacks--
			names = up[len(up)-1].names
			up[len(up)-1].names = append(names, f.Name)
		}
		name := len(f.Name) > 0 && len(f.Name) <= 12 && strings.Trim(f.Name, "abcdefghijklmnopqrstuvwxyz0123456789_") == "" && !strings.Contains("0123456789_", f.Name[:1])
		switch {
		case i > 0 && len(up) == 0:
			return api.ErrArg
		case len(up) > 8:
			return api.ErrDeep
		case !name || slices.Contains(names, f.Name):
			return api.ErrName
		case f.Rep < 0 || f.Rep > 2 || f.Kind < 0 || f.Kind > 4 || i == 0 && f.Rep+f.Kind > 0:
			return api.ErrKind
		case f.Kind == 0 && f.Kids < 1 || f.Kind > 0 && f.Kids != 0:
			return api.ErrArg
		case f.Kind == 0:
			up = append(up, &open{lacks: f.Kids})
		}
	}
	for _, o := range up {
		if o.lacks > 0 {
			return api.ErrArg
		}
	}
	return api.OK
}

// spoil changes one field so that it is often no longer right.
func (m *mix) spoil(s api.Schema) {
	f := &s[m.below(len(s))]
	numbers := []int{-1, 0, 1, 2, 3, 4, 5, 39, 40, 41, math.MaxInt, math.MinInt, 1 << 62, 256}
	v := numbers[m.below(len(numbers))]
	switch m.below(6) {
	case 0:
		f.Rep = v
	case 1:
		f.Kind = v
	case 2:
		f.Kids = v
	case 3:
		f.Kids += m.below(3) - 1
	case 4:
		names := []string{"", "A", "1", "_", "a-b", "a b", "abcdefghijklm", "é", "a\x00", "a\xff", "aé"}
		f.Name = names[m.below(len(names))]
	case 5:
		f.Name = s[m.below(len(s))].Name
	}
}

func wantCheck(t *testing.T, what string, s api.Schema, want api.Errno) {
	t.Helper()
	if got := schema.Check(s); got != want {
		t.Errorf("%s: Check: %v, want %v", what, got, want)
	}
}

func TestP501Schemas(t *testing.T) {
	wantCheck(t, "paper", paper(), api.OK)
	wantCheck(t, "one leaf", root(ints("a")...), api.OK)
	wantCheck(t, "groups behind one another", root(group("a", 1, ints("x")...), group("b", 2, ints("x")...)), api.OK)
	wantCheck(t, "groups in one another", root(group("a", 1, group("b", 2, group("c", 0, ints("x", "y")...)))), api.OK)
	wantCheck(t, "a leaf behind groups", root(group("a", 1, group("b", 2, ints("x")...)), leaf("c", 0, 1)), api.OK)
	for rep := range 3 {
		for kind := 1; kind < 5; kind++ {
			wantCheck(t, fmt.Sprint("leaf of ", rep, kind), root(leaf("a", rep, kind)), api.OK)
		}
		wantCheck(t, fmt.Sprint("group of ", rep), root(group("a", rep, ints("b")...)), api.OK)
	}
}

func TestP501HowManyFields(t *testing.T) {
	wantCheck(t, "nil", nil, api.ErrMany)
	wantCheck(t, "no fields", api.Schema{}, api.ErrMany)
	for n := 2; n <= 100; n++ {
		want := api.OK
		if n > 40 {
			want = api.ErrMany
		}
		wantCheck(t, fmt.Sprint(n, " fields"), many(n), want)
	}
	// It is told ahead of what is wrong with the fields.
	wantCheck(t, "41 that are not right", make(api.Schema, 41), api.ErrMany)
	wantCheck(t, "41, more than the group has", append(many(40), leaf("z", 0, 1)...), api.ErrMany)
	wantCheck(t, "40, fewer than the group has", many(41)[:40], api.ErrArg)
}

func TestP501InNoGroup(t *testing.T) {
	wantCheck(t, "behind the root's", append(root(ints("a")...), ints("b")[0]...), api.ErrArg)
	wantCheck(t, "behind a group's", append(root(group("a", 1, ints("b")...)), ints("b")[0]...), api.ErrArg)
	wantCheck(t, "a group", append(root(ints("a")...), group("b", 1, ints("c")...)...), api.ErrArg)
	wantCheck(t, "two roots", append(root(ints("a")...), root(ints("a")...)...), api.ErrArg)
	// It is asked ahead of all else that may be wrong with the field.
	wantCheck(t, "no name", append(root(ints("a")...), api.Field{Rep: 9, Kind: 9, Kids: -1}), api.ErrArg)
	wantCheck(t, "no kind", append(root(ints("a")...), api.Field{Name: "b", Rep: 0, Kind: 9}), api.ErrArg)
	// The first field is in none either: that is no error of it.
	wantCheck(t, "the first one", root(ints("a")...), api.OK)
}

func TestP501Depth(t *testing.T) {
	for n := 1; n < 39; n++ {
		want := api.OK
		if n > 8 {
			want = api.ErrDeep
		}
		for rep := range 3 {
			wantCheck(t, fmt.Sprint("in ", n, " groups"), deep(n, rep), want)
		}
	}
	// The groups that are behind count no longer.
	s := deep(8, 1)[1:]
	wantCheck(t, "beside one in 8", root(s, leaf("z", 0, 1)), api.OK)
	wantCheck(t, "two in 8", root(s, with(s, 0, func(f *api.Field) { f.Name = "z" })), api.OK)
	wantCheck(t, "the second in 9", root(s, group("z", 0, s)), api.ErrDeep)
	// A group in 8 is not too deep, but its first field is.
	wantCheck(t, "a group in 8, alone", deep(9, 0)[:9], api.ErrArg)
	wantCheck(t, "a group in 8, and a field", deep(9, 0), api.ErrDeep)
	// It is asked ahead of the name, the kinds and the fields in it.
	for what, f := range map[string]api.Field{"name": {Name: "", Kind: 1}, "rep": {Name: "a", Rep: 3, Kind: 1}, "kind": {Name: "a", Kind: 5}, "kids": {Name: "a", Kind: 1, Kids: 1}, "all": {Rep: -1, Kind: -1, Kids: -1}} {
		s := deep(9, 0)
		s[len(s)-1] = f
		wantCheck(t, what, s, api.ErrDeep)
	}
}

func TestP501Names(t *testing.T) {
	for _, name := range []string{"a", "z", "a0", "a9", "a_", "z__", "abc_012_xyz9", "abcdefghijkl"} {
		wantCheck(t, name, root(ints(name)...), api.OK)
		wantCheck(t, name, group(name, 0, ints("a")...), api.OK)
		wantCheck(t, name, root(group(name, 1, ints("a")...)), api.OK)
	}
	for _, name := range []string{"", "abcdefghijklm", strings.Repeat("a", 1000), "0", "0a", "_", "_a", "A", "aB", "a.b", "a b", " a", "a ", "a-b", "é", "aé", "a\x00", "a\xff", "\xff", "a\xc3", "á", "abcdefghijé", "ａ"} {
		wantCheck(t, name, root(ints(name)...), api.ErrName)
		wantCheck(t, name, group(name, 0, ints("a")...), api.ErrName)
		wantCheck(t, name, root(group(name, 1, ints("a")...)), api.ErrName)
	}
}

func TestP501EachCharacter(t *testing.T) {
	for c := range rune(0x3000) {
		letter := c >= 'a' && c <= 'z'
		other := letter || c >= '0' && c <= '9' || c == '_'
		for name, right := range map[string]bool{string(c): letter, "a" + string(c): other, string(c) + "a": letter, "a" + string(c) + "b": other, "abcdefghijk" + string(c): other} {
			want := api.ErrName
			if right {
				want = api.OK
			}
			wantCheck(t, fmt.Sprintf("%q", name), root(ints(name)...), want)
		}
	}
	for c := range 256 {
		want := api.ErrName
		if c == '_' || c >= '0' && c <= '9' || c >= 'a' && c <= 'z' {
			want = api.OK
		}
		name := "a" + string([]byte{byte(c)})
		wantCheck(t, fmt.Sprintf("%q", name), root(ints(name)...), want)
	}
}

func TestP501SameNames(t *testing.T) {
	wantCheck(t, "behind one another", root(ints("a", "a")...), api.ErrName)
	wantCheck(t, "far", root(ints("a", "b", "c", "a")...), api.ErrName)
	wantCheck(t, "of another kind", root(leaf("a", 0, 1), leaf("a", 1, 2)), api.ErrName)
	wantCheck(t, "groups", root(group("a", 0, ints("b")...), group("a", 1, ints("c")...)), api.ErrName)
	wantCheck(t, "with a group between", root(leaf("a", 0, 1), group("b", 0, ints("c")...), leaf("a", 0, 1)), api.ErrName)
	wantCheck(t, "in a group, behind a group in it", root(group("g", 0, leaf("a", 0, 1), group("b", 0, ints("c")...), leaf("a", 0, 1))), api.ErrName)
	// In different groups they may be the same.
	wantCheck(t, "as the root", group("a", 0, ints("a")...), api.OK)
	wantCheck(t, "as its group", root(group("a", 0, ints("a")...)), api.OK)
	wantCheck(t, "as one beside its group", root(leaf("a", 0, 1), group("b", 0, ints("a")...)), api.OK)
	wantCheck(t, "as one behind its group", root(group("b", 0, ints("a")...), leaf("a", 0, 1)), api.OK)
	wantCheck(t, "in groups side by side", root(group("a", 0, ints("x")...), group("b", 0, ints("x")...)), api.OK)
	// The whole name counts.
	wantCheck(t, "one begins as the other", root(ints("a", "ab", "abc", "a_")...), api.OK)
}

func TestP501NamesAheadOfKinds(t *testing.T) {
	for what, f := range map[string]api.Field{"rep": {Rep: 3, Kind: 1}, "kind": {Kind: 5}, "kids": {Kind: 1, Kids: 1}, "all": {Rep: -1, Kind: -1, Kids: -1}} {
		for _, name := range []string{"", "A", "a"} {
			f.Name = name
			wantCheck(t, what, root(leaf("a", 0, 1), api.Schema{f}), api.ErrName)
		}
	}
	wantCheck(t, "the first one", group("", 1, ints("a")...), api.ErrName)
	wantCheck(t, "the first one, a leaf", leaf("1", 1, 1), api.ErrName)
	wantCheck(t, "the first one, without fields", group("A", 0), api.ErrName)
}

func TestP501Kinds(t *testing.T) {
	numbers := []int{math.MinInt, -1 << 32, -256, -1, 0, 1, 2, 3, 4, 5, 6, 255, 256, 257, 1 << 32, math.MaxInt}
	for _, v := range numbers {
		want := api.OK
		if v < 0 || v > 2 {
			want = api.ErrKind
		}
		wantCheck(t, fmt.Sprint("leaf, Rep ", v), root(leaf("a", v, 1)), want)
		wantCheck(t, fmt.Sprint("group, Rep ", v), root(group("a", v, ints("a")...)), want)
		want = api.OK
		if v < 1 || v > 4 {
			want = api.ErrKind
		}
		if v != 0 {
			wantCheck(t, fmt.Sprint("Kind ", v), root(leaf("a", 0, v)), want)
		}
	}
	// They are asked ahead of the fields in it.
	wantCheck(t, "a group's rep", root(api.Schema{{Name: "a", Rep: 3, Kind: 0, Kids: 0}}), api.ErrKind)
	wantCheck(t, "a leaf's rep", root(api.Schema{{Name: "a", Rep: 3, Kind: 1, Kids: 1}}), api.ErrKind)
	wantCheck(t, "a kind", root(api.Schema{{Name: "a", Rep: 0, Kind: 5, Kids: 1}}), api.ErrKind)
}

func TestP501TheFirstField(t *testing.T) {
	for rep := -1; rep < 5; rep++ {
		for kind := -1; kind < 6; kind++ {
			s := api.Schema{{Name: "m", Rep: rep, Kind: kind, Kids: 1}, {Name: "a", Kind: 1}}
			want := api.ErrKind
			if rep == api.Required && kind == api.Group {
				want = api.OK
			}
			wantCheck(t, fmt.Sprint("the first one of ", rep, kind), s, want)
			s[0].Kids = 0
			if want == api.OK {
				want = api.ErrArg
			}
			wantCheck(t, fmt.Sprint("the first one of ", rep, kind, ", no fields"), s, want)
			wantCheck(t, fmt.Sprint("the only one of ", rep, kind), s[:1], want)
		}
	}
}

func TestP501Kids(t *testing.T) {
	for _, v := range []int{math.MinInt, -1 << 62, -1, 0, 1, 2, 40, 41, 1 << 32, math.MaxInt} {
		want := api.ErrArg
		if v == 1 {
			want = api.OK
		}
		s := with(root(group("a", 1, ints("b")...)), 1, func(f *api.Field) { f.Kids = v })
		wantCheck(t, fmt.Sprint("a group of ", v), s, want)
		s = with(root(ints("b")...), 0, func(f *api.Field) { f.Kids = v })
		wantCheck(t, fmt.Sprint("a root of ", v), s, want)
		for kind := 1; kind < 5; kind++ {
			want = api.ErrArg
			if v == 0 {
				want = api.OK
			}
			s = with(root(leaf("b", 0, kind)), 1, func(f *api.Field) { f.Kids = v })
			wantCheck(t, fmt.Sprint("a leaf of ", v), s, want)
		}
	}
}

func TestP501FewerFields(t *testing.T) {
	wantCheck(t, "the root alone", root(ints("a")...)[:1], api.ErrArg)
	s := paper()
	for n := 1; n < len(s); n++ {
		wantCheck(t, fmt.Sprint("the first ", n), s[:n], api.ErrArg)
	}
	for i, f := range s {
		if f.Kind == api.Group {
			wantCheck(t, fmt.Sprint("one more in ", i), with(s, i, func(f *api.Field) { f.Kids++ }), api.ErrArg)
		}
	}
	// Numbers that are right only as their sum, or as what is left of it.
	wantCheck(t, "the sum is right", api.Schema{{Name: "a", Kids: 2}, {Name: "b", Kids: math.MaxInt}, {Name: "c", Kids: math.MaxInt}, {Name: "d", Kids: 1}, {Name: "e", Kind: 1}}, api.ErrArg)
	wantCheck(t, "it wraps to 0", api.Schema{{Name: "a", Kids: 1 << 62}, {Name: "b", Kids: 1 << 62}, {Name: "c", Kids: 1 << 62}, {Name: "d", Kids: 1<<62 + 4}, {Name: "e", Kind: 1}}, api.ErrArg)
	// It is told at the end: behind what is wrong with a field.
	wantCheck(t, "and a name", api.Schema{{Name: "a", Kids: 9}, {Name: "B", Kind: 1}}, api.ErrName)
	wantCheck(t, "and a kind", api.Schema{{Name: "a", Kids: 9}, {Name: "b", Kind: 9}}, api.ErrKind)
}

func TestP501TheFirstFieldThatIsWrongDecides(t *testing.T) {
	wrong := []struct {
		f api.Field
		e api.Errno
	}{
		{api.Field{Name: "A", Kind: 1}, api.ErrName},
		{api.Field{Name: "x", Kind: 9}, api.ErrKind},
		{api.Field{Name: "y", Kind: 1, Kids: 1}, api.ErrArg},
	}
	for _, x := range wrong {
		for _, y := range wrong {
			wantCheck(t, fmt.Sprint(x, y), root(leaf("a", 0, 1), api.Schema{x.f}, leaf("b", 0, 1), api.Schema{y.f}), x.e)
			wantCheck(t, fmt.Sprint(x, y, "in a group"), root(group("a", 0, leaf("b", 0, 1), api.Schema{x.f}), api.Schema{y.f}), x.e)
		}
		wantCheck(t, fmt.Sprint(x, "and no group"), append(root(api.Schema{x.f}), ints("a")[0]...), x.e)
		wantCheck(t, fmt.Sprint("no group and", x), append(root(ints("a")...), leaf("b", 0, 1)[0], x.f), api.ErrArg)
		wantCheck(t, fmt.Sprint(x, "and too deep"), root(api.Schema{x.f}, deep(9, 0)[1:]), x.e)
		wantCheck(t, fmt.Sprint("too deep and", x), root(deep(9, 0)[1:], api.Schema{x.f}), api.ErrDeep)
	}
}

func TestP501ByItsWords(t *testing.T) {
	m := seed
	seen := map[api.Errno]int{}
	for range 30000 {
		s := m.known().s
		for range m.below(3) {
			m.spoil(s)
		}
		want := checked(s)
		seen[want]++
		wantCheck(t, fmt.Sprint(s), s, want)
	}
	for _, e := range []api.Errno{api.OK, api.ErrArg, api.ErrName, api.ErrKind} {
		if seen[e] < 1000 {
			t.Errorf("%v was seen %d times", e, seen[e])
		}
	}
}

func TestP502Paper(t *testing.T) {
	s := paper()
	if got, want := fmt.Sprint(schema.Leaves(s)), "[{1 0 0 3} {3 1 2 3} {4 1 2 2} {7 2 2 4} {8 2 3 4} {9 1 2 4} {10 0 1 1}]"; got != want {
		t.Errorf("Leaves: %s, want %s", got, want)
	}
	if got, want := fmt.Sprint(schema.Parents(s)), "[-1 0 0 2 2 0 5 6 6 5 0]"; got != want {
		t.Errorf("Parents: %s, want %s", got, want)
	}
	want := strings.Fields("id links links.back links.fore name name.lang name.lang.code name.lang.land name.url old")
	for i, path := range want {
		if got := schema.Path(s, i+1); got != path {
			t.Errorf("Path(%d): %q, want %q", i+1, got, path)
		}
	}
}

func TestP502PathsThatAreNone(t *testing.T) {
	for _, s := range []api.Schema{nil, {}, paper(), root(ints("a")...), many(40)} {
		for _, i := range []int{0, -1, -2, len(s), len(s) + 1, 41, 256, math.MinInt, math.MaxInt, 1 << 32, -1 << 32} {
			if i > 0 && i < len(s) {
				continue
			}
			if got := schema.Path(s, i); got != "" {
				t.Errorf("Path(%d) of %d fields: %q", i, len(s), got)
			}
		}
	}
}

func TestP502Levels(t *testing.T) {
	for rep, want := range []api.Leaf{{R: 0, D: 0}, {R: 0, D: 8}, {R: 8, D: 8}} {
		want.Field, want.Kind = 8, api.Bool
		if got := schema.Leaves(deep(8, rep)); !slices.Equal(got, []api.Leaf{want}) {
			t.Errorf("of Rep %d: %v, want %v", rep, got, want)
		}
	}
	// Each group on the way counts for itself, and those that are behind do not.
	s := root(group("a", 1, group("b", 2, leaf("x", 0, 4)), leaf("y", 2, 3)), leaf("z", 1, 2), leaf("w", 0, 1))
	if got, want := fmt.Sprint(schema.Leaves(s)), "[{3 1 2 4} {4 1 2 3} {5 0 1 2} {6 0 0 1}]"; got != want {
		t.Errorf("%s, want %s", got, want)
	}
}

func TestP502AnySchema(t *testing.T) {
	m := seed
	for range 3000 {
		k := m.known()
		if got := schema.Leaves(k.s); !slices.Equal(got, k.leaves) {
			t.Fatalf("Leaves(%v): %v, want %v", k.s, got, k.leaves)
		}
		if got := schema.Parents(k.s); !slices.Equal(got, k.parents) {
			t.Fatalf("Parents(%v): %v, want %v", k.s, got, k.parents)
		}
		for i, want := range k.paths {
			if got := schema.Path(k.s, i); got != want {
				t.Fatalf("Path(%v, %d): %q, want %q", k.s, i, got, want)
			}
		}
	}
}

func TestP502Same(t *testing.T) {
	s := paper()
	if !schema.Same(s, paper()) || !schema.Same(nil, api.Schema{}) || !schema.Same(api.Schema{}, nil) {
		t.Error("the same are not the same")
	}
	changes := map[string]func(f *api.Field){
		"Name":  func(f *api.Field) { f.Name += "x" },
		"name":  func(f *api.Field) { f.Name = strings.ToUpper(f.Name) },
		"Rep":   func(f *api.Field) { f.Rep ^= 1 },
		"Kind":  func(f *api.Field) { f.Kind ^= 1 },
		"Kids":  func(f *api.Field) { f.Kids++ },
		"Kids-": func(f *api.Field) { f.Kids += 1 << 32 },
	}
	for what, change := range changes {
		for i := range s {
			x := with(s, i, change)
			if schema.Same(s, x) || schema.Same(x, s) || !schema.Same(x, slices.Clone(x)) {
				t.Errorf("%s of field %d", what, i)
			}
		}
	}
	for n := range s {
		if schema.Same(s, s[:n]) || schema.Same(s[:n], s) || n > 0 && schema.Same(s, s[n:]) {
			t.Errorf("%d fields are the same as all", n)
		}
	}
	x := slices.Clone(s)
	x[3], x[4] = x[4], x[3]
	if schema.Same(s, x) {
		t.Error("in another order they are the same")
	}
}

func TestP503Bytes(t *testing.T) {
	want := "\x0b" +
		"\x00\x00\x04\x03doc" +
		"\x00\x03\x00\x02id" +
		"\x01\x00\x02\x05links" +
		"\x02\x03\x00\x04back" +
		"\x02\x02\x00\x04fore" +
		"\x02\x00\x02\x04name" +
		"\x02\x00\x02\x04lang" +
		"\x00\x04\x00\x04code" +
		"\x01\x04\x00\x04land" +
		"\x01\x04\x00\x03url" +
		"\x01\x01\x00\x03old"
	if got := schema.Bytes(paper()); string(got) != want {
		t.Errorf("%q, want %q", got, want)
	}
	if got, want := schema.Bytes(group("abcdefghij_9", 0, ints("z")...)), "\x02\x00\x00\x01\x0cabcdefghij_9\x00\x02\x00\x01z"; string(got) != want {
		t.Errorf("%q, want %q", got, want)
	}
	if got := schema.Bytes(many(40)); !strings.HasPrefix(string(got), "\x28\x00\x00\x27\x04root\x00\x02\x00\x02a0") {
		t.Errorf("%q", got)
	}
}

func TestP503ParseReadsThem(t *testing.T) {
	b := "\x03\x00\x00\x01\x01m\x02\x00\x01\x0cabcdefghij_9\x01\x04\x00\x02a_"
	want := api.Schema{{Name: "m", Kids: 1}, {Name: "abcdefghij_9", Rep: 2, Kids: 1}, {Name: "a_", Rep: 1, Kind: 4}}
	if got, e := schema.Parse([]byte(b)); e != api.OK || !slices.Equal(got, want) {
		t.Errorf("%v, %v, want %v", got, e, want)
	}
}

// wantParse asks also that there is nothing beside an error.
func wantParse(t *testing.T, b string, want api.Errno) {
	t.Helper()
	s, e := schema.Parse([]byte(b))
	if e != want {
		t.Errorf("Parse(%q): %v, want %v", b, e, want)
	}
	if e != api.OK && s != nil {
		t.Errorf("Parse(%q): %v beside %v", b, s, e)
	}
}

const (
	over = "\xff\xff\xff\xff\xff\xff\xff\xff\xff\x02" // a varint of more than 64 bits
	most = "\xff\xff\xff\xff\xff\xff\xff\xff\xff\x01" // the greatest one
	head = "\x02\x00\x00\x01\x01m"                    // of a schema of one leaf
)

func TestP503ParseHowManyFields(t *testing.T) {
	wantParse(t, "\x00", api.ErrMany)
	wantParse(t, "\x29", api.ErrMany)
	wantParse(t, "\x29\x00", api.ErrMany)
	wantParse(t, "\x7f", api.ErrMany)
	wantParse(t, "\xac\x02", api.ErrMany)
	wantParse(t, most, api.ErrMany)
	wantParse(t, "\x80\x80\x80\x80\x80\x80\x80\x80\x80\x01", api.ErrMany)
	wantParse(t, "\xa8\x80\x80\x80\x10", api.ErrMany) // 2^32 + 40
	wantParse(t, over, api.ErrOver)
	wantParse(t, "\x80\x00", api.ErrBad)
	wantParse(t, "\xa9\x00", api.ErrBad)
	wantParse(t, "", api.ErrCut)
	wantParse(t, "\x80", api.ErrCut)
	wantParse(t, "\xa9\x80", api.ErrCut)
	wantParse(t, "\x28", api.ErrCut)
	wantParse(t, string(schema.Bytes(many(40))), api.OK)
	wantParse(t, string(schema.Bytes(many(41))), api.ErrMany)
	wantParse(t, string(schema.Bytes(many(128))), api.ErrMany)
	wantParse(t, string(schema.Bytes(many(1000))), api.ErrMany)
}

func TestP503ParseHowManyInAGroup(t *testing.T) {
	for _, f := range []string{"\x01\x00\x00", head + "\x00\x01", head + "\x00\x00", head + "\xff\xff"} {
		wantParse(t, f+"\x29", api.ErrOver)
		wantParse(t, f+"\x29\x01a", api.ErrOver)
		wantParse(t, f+"\x7f", api.ErrOver)
		wantParse(t, f+"\xa8\x01", api.ErrOver)
		wantParse(t, f+most, api.ErrOver)
		wantParse(t, f+over, api.ErrOver)
		wantParse(t, f+"\x80\x00", api.ErrBad)
		wantParse(t, f+"\xa9\x00", api.ErrBad)
		wantParse(t, f, api.ErrCut)
		wantParse(t, f+"\xa9", api.ErrCut)
		wantParse(t, f+"\x28", api.ErrCut)
		wantParse(t, f+"\x28\x0d", api.ErrLong) // 40 is none that is above 40
	}
	wantParse(t, "\x01\x00\x00\x28\x01m", api.ErrArg)
	wantParse(t, head+"\x00\x01\x28\x01a", api.ErrArg)
}

func TestP503ParseLongNames(t *testing.T) {
	for _, f := range []string{"\x01\x00\x00\x01", head + "\x00\x01\x00", head + "\xff\xff\x28"} {
		wantParse(t, f+"\x0d", api.ErrLong)
		wantParse(t, f+"\x0dabcdefghijklm", api.ErrLong)
		wantParse(t, f+"\xac\x02", api.ErrLong)
		wantParse(t, f+most, api.ErrLong)
		wantParse(t, f+over, api.ErrOver)
		wantParse(t, f+"\x80\x00", api.ErrBad)
		wantParse(t, f+"\x8d\x00", api.ErrBad)
		wantParse(t, f, api.ErrCut)
		wantParse(t, f+"\x8d", api.ErrCut)
		wantParse(t, f+"\x0c", api.ErrCut)
		wantParse(t, f+"\x0cabcdefghijk", api.ErrCut)
		wantParse(t, f+"\x02a", api.ErrCut)
	}
	wantParse(t, head+"\x00\x01\x00\x0cabcdefghijkl", api.OK)
	wantParse(t, head+"\x00\x01\x00\x00", api.ErrName)
}

func TestP503ParseBytesThatEndEarly(t *testing.T) {
	b := string(schema.Bytes(paper()))
	for n := range b {
		wantParse(t, b[:n], api.ErrCut)
	}
	wantParse(t, b, api.OK)
}

func TestP503ParseBytesBehind(t *testing.T) {
	b := string(schema.Bytes(paper()))
	for _, more := range []string{"\x00", "\xff", "x", b, strings.Repeat("\x80", 20)} {
		wantParse(t, b+more, api.ErrMore)
	}
	// They are told ahead of what Check says.
	for b, e := range map[string]api.Errno{
		"\x00":                           api.ErrMany,
		"\x01\x00\x00\x01\x01m":          api.ErrArg,
		"\x01\x00\x00\x01\x00":           api.ErrName,
		"\x01\x01\x00\x01\x01m":          api.ErrKind,
		string(schema.Bytes(deep(9, 1))): api.ErrDeep,
	} {
		wantParse(t, b, e)
		wantParse(t, b+"\x00", api.ErrMore)
	}
}

func TestP503ParseFoundFirst(t *testing.T) {
	// While reading, what lies ahead decides; the fields are held against the rules only behind it.
	bad := "\x02\xff\xff\x00\x00" // a field that Check would refuse
	wantParse(t, bad, api.ErrCut)
	wantParse(t, bad+"\x00\x00\x29", api.ErrOver)
	wantParse(t, bad+"\x00\x00\x00\x0d", api.ErrLong)
	wantParse(t, bad+"\x00\x00\x80\x00", api.ErrBad)
	wantParse(t, bad+"\x00\x00\x00\x00\x00", api.ErrMore)
	wantParse(t, bad+"\x00\x00\x00\x00", api.ErrName)
	wantParse(t, "\x02\x00\x00\x29\x0d", api.ErrOver)
	wantParse(t, "\x02\x00\x00\x01\x0d\x00\x00\x29", api.ErrLong)
	wantParse(t, "\x02\x00\x00\x80\x00\x0d", api.ErrBad)
	wantParse(t, "\x29\x00\x00\x29\x0d", api.ErrMany)
}

func TestP503ParseWhatCheckSays(t *testing.T) {
	for _, s := range []api.Schema{
		append(root(ints("a")...), ints("b")[0]...),
		deep(9, 2), root(ints("a", "a")...), root(ints("A")...), root(leaf("a", 3, 1)), root(leaf("a", 255, 1)), root(leaf("a", 0, 5)), root(leaf("a", 0, 255)),
		group("a", 1, ints("a")...), leaf("a", 0, 1), root(group("a", 0)), with(root(ints("a")...), 1, func(f *api.Field) { f.Kids = 1 }), paper()[:7],
	} {
		e := schema.Check(s)
		if e == api.OK {
			t.Errorf("Check(%v) is ok", s)
		}
		wantParse(t, string(schema.Bytes(s)), e)
	}
}

func TestP503ParseIsWhatBytesWrites(t *testing.T) {
	// What is accepted is written in no other way: each change of a byte leads to an error, or to another schema.
	b := schema.Bytes(paper())
	for i := range b {
		for c := range 256 {
			x := slices.Clone(b)
			x[i] = byte(c)
			s, e := schema.Parse(x)
			if e == api.OK && !slices.Equal(schema.Bytes(s), x) {
				t.Errorf("Parse(%q): %v, whose bytes are %q", x, s, schema.Bytes(s))
			}
			if e != api.OK && s != nil {
				t.Errorf("Parse(%q): %v beside %v", x, s, e)
			}
		}
	}
}

func TestP504RoundTrip(t *testing.T) {
	m := seed
	list := []api.Schema{paper(), many(2), many(40), deep(1, 0), deep(8, 1), deep(8, 2), root(ints("abcdefghijkl", "a", "a_9")...)}
	for range 3000 {
		list = append(list, m.known().s)
	}
	for _, s := range list {
		got, e := schema.Parse(schema.Bytes(s))
		if e != api.OK || !schema.Same(got, s) || !slices.Equal(got, s) {
			t.Fatalf("%v, %v, want %v", got, e, s)
		}
	}
}

func TestP1AnyFields(t *testing.T) {
	// None of the calls panics or goes on without end, whatever the fields say.
	m := seed
	numbers := []int{math.MinInt, -1 << 62, -2, -1, 0, 0, 0, 1, 1, 2, 3, 4, 5, 40, 1 << 62, math.MaxInt}
	pick := func() int { return numbers[m.below(len(numbers))] }
	for range 3000 {
		s := make(api.Schema, m.below(60))
		for i := range s {
			s[i] = api.Field{Name: m.name(), Rep: pick(), Kind: pick(), Kids: pick()}
		}
		callAll(s)
		if got, want := schema.Check(s), checked(s); got != want {
			t.Errorf("Check(%v): %v, want %v", s, got, want)
		}
	}
}

func callAll(s api.Schema) {
	schema.Check(s)
	schema.Leaves(s)
	schema.Parents(s)
	for _, i := range []int{-1, 0, 1, len(s) / 2, len(s) - 1, len(s)} {
		schema.Path(s, i)
	}
	schema.Bytes(s)
	schema.Same(s, s)
}

func TestP1ManyFields(t *testing.T) {
	inside := make(api.Schema, 200000)
	beside := make(api.Schema, 200000)
	for i := range inside {
		inside[i] = api.Field{Name: "a", Kids: 1}
		beside[i] = api.Field{Name: "b", Kind: i & 1, Kids: math.MaxInt}
	}
	callAll(inside)
	callAll(beside)
}

func TestP1AnyBytes(t *testing.T) {
	m := seed
	for range 20000 {
		b := make([]byte, m.below(60))
		for i := range b {
			b[i] = byte(m.below(256) >> (m.below(3) * 3))
		}
		if s, e := schema.Parse(b); e == api.OK && schema.Check(s) != api.OK || e != api.OK && s != nil {
			t.Errorf("Parse(%q): %v, %v", b, s, e)
		}
	}
	b := schema.Bytes(paper())
	for range 20000 {
		x := slices.Clone(b)
		for range 1 + m.below(4) {
			x[m.below(len(x))] = byte(m.below(256) >> m.below(8))
		}
		if s, e := schema.Parse(x); e == api.OK && schema.Check(s) != api.OK || e != api.OK && s != nil {
			t.Errorf("Parse(%q): %v, %v", x, s, e)
		}
	}
}

func TestP2ArgumentsAreLeft(t *testing.T) {
	room := append(paper(), paper()...)
	was := slices.Clone(room)
	n := len(paper())
	callAll(room[:n])
	callAll(room[:n-2])
	schema.Same(room[:n], room[n:])
	if !slices.Equal(room, was) {
		t.Errorf("the fields were changed: %v", room)
	}
	b := append(schema.Bytes(paper()), "and what lies behind"...)
	before := slices.Clone(b)
	schema.Parse(b[:len(b)-20])
	schema.Parse(b)
	schema.Parse(b[:9])
	if !slices.Equal(b, before) {
		t.Errorf("the bytes were changed: %q", b)
	}
}

func TestP2ResultsAreNew(t *testing.T) {
	s := paper()
	results := func() []any {
		p, e := schema.Parse(schema.Bytes(s))
		return []any{schema.Leaves(s), schema.Parents(s), schema.Bytes(s), p, e, schema.Path(s, 8)}
	}
	want := results()
	// What is done to one result, its room included, no other one shows.
	l, p, b := schema.Leaves(s), schema.Parents(s), schema.Bytes(s)
	q, _ := schema.Parse(b)
	l, p, b, q = l[:cap(l)], p[:cap(p)], b[:cap(b)], q[:cap(q)]
	for i := range l {
		l[i] = api.Leaf{Field: 99}
	}
	for i := range p {
		p[i] = 99
	}
	for i := range b {
		b[i] = 99
	}
	for i := range q {
		q[i] = api.Field{Name: "x"}
	}
	if got := results(); !reflect.DeepEqual(got, want) {
		t.Errorf("%v, want %v", got, want)
	}
	if !slices.Equal(s, paper()) {
		t.Errorf("a result shares memory with the schema: %v", s)
	}
}

func TestP2NothingIsKept(t *testing.T) {
	b := schema.Bytes(paper())
	s, _ := schema.Parse(b)
	for i := range b {
		b[i] = 'x'
	}
	if !slices.Equal(s, paper()) {
		t.Errorf("what was parsed hangs on the bytes: %v", s)
	}
	s[1].Name, s[3].Kind = "other", api.Bytes
	if got := schema.Path(s, 1); got != "other" {
		t.Errorf("Path: %q", got)
	}
	if got := schema.Leaves(s)[1].Kind; got != api.Bytes {
		t.Errorf("Leaves: kind %d", got)
	}
}

func TestP3TheSameCalls(t *testing.T) {
	s := paper()
	b := schema.Bytes(s)
	for range 3 {
		if !slices.Equal(schema.Bytes(s), b) || schema.Path(s, 8) != "name.lang.land" || schema.Check(s) != api.OK || len(schema.Leaves(s)) != 7 {
			t.Error("the same calls tell other things")
		}
		if p, e := schema.Parse(b); e != api.OK || !schema.Same(p, s) {
			t.Errorf("Parse: %v, %v", p, e)
		}
		schema.Check(nil)
		schema.Parse([]byte("\x29"))
		schema.Path(s, 99)
	}
}
