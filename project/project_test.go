package project_test

import (
	"fmt"
	"math"
	"slices"
	"strings"
	"testing"
	"unsafe"

	"shredder/api"
	"shredder/project"
	"shredder/schema"
	"shredder/tree"
)

// leaf, group tell fields as they lie in a schema: a group's own ones behind it.
func leaf(name string, rep, kind int) api.Schema {
	return api.Schema{{Name: name, Rep: rep, Kind: kind}}
}

func group(name string, rep int, inside ...api.Schema) api.Schema {
	s := api.Schema{{Name: name, Rep: rep, Kind: api.Group, Kids: len(inside)}}
	for _, x := range inside {
		s = append(s, x...)
	}
	return s
}

// paper has groups side by side and in one another, of every Rep, and leaves of every kind; a name is there in several groups.
func paper() api.Schema {
	return group("doc", api.Required,
		leaf("id", api.Required, api.Int64),
		group("links", api.Optional,
			leaf("back", api.Repeated, api.Int64),
			leaf("id", api.Repeated, api.Int32)),
		group("name", api.Repeated,
			group("lang", api.Required,
				leaf("code", api.Required, api.Bytes),
				group("more", api.Repeated,
					leaf("id", api.Optional, api.Bytes))),
			leaf("url", api.Optional, api.Bytes)),
		leaf("old", api.Optional, api.Bool))
}

// n, x, g are values: numbers, strings, and a group with what is there of each of its fields.
func n(l ...int) (t []api.Tree) {
	for _, v := range l {
		t = append(t, api.Tree{N: v})
	}
	return t
}

func x(l ...string) (t []api.Tree) {
	for _, v := range l {
		t = append(t, api.Tree{S: v})
	}
	return t
}

func g(fields ...[]api.Tree) api.Tree { return api.Tree{Kids: fields} }

// some are trees as a list.
func some(l ...api.Tree) []api.Tree { return l }

// print is a record of paper; a group that isn't there, one with nothing in it and an empty string are in it.
func print() api.Tree {
	return g(n(10),
		some(g(n(20, 40), nil)),
		some(
			g(some(g(x("en"), some(g(x("us")), g(nil), g(x(""))))), x("http")),
			g(some(g(x(""), nil)), nil)),
		n(1))
}

// shown is a tree in words: a list that is nil and one that is empty are the same.
func shown(t api.Tree) string { return fmt.Sprint(t) }

// mix tells numbers in whose bits there is no order to be seen.
type mix uint64

const seed = mix(88172645463325252)

func (m *mix) below(n int) int {
	*m ^= *m << 13
	*m ^= *m >> 7
	*m ^= *m << 17
	return int(*m >> 1 % mix(n))
}

// name is one that a field may have; most are short: one begins another, and they are in several groups.
func (m *mix) name() string {
	b := []byte{"ab"[m.below(2)]}
	for range m.below(4) {
		b = append(b, "ab0_"[m.below(4)])
	}
	if m.below(8) == 0 {
		b = append(b, "abcdefghijkl"[len(b):]...)
	}
	return string(b)
}

// fields makes a group of at least one field: at most room in all, no deeper than depth says, and no name twice.
func (m *mix) fields(depth, room int) (list []api.Schema) {
	names := map[string]bool{}
	for room > 0 && (len(list) == 0 || m.below(4) > 0) {
		name := m.name()
		if names[name] {
			continue
		}
		names[name] = true
		x := leaf(name, m.below(3), 1+m.below(4))
		if depth > 1 && room > 1 && m.below(2) == 0 {
			x = group(name, m.below(3), m.fields(depth-1, room-1)...)
		}
		list, room = append(list, x), room-len(x)
	}
	return list
}

func (m *mix) schema() api.Schema {
	return group(m.name(), api.Required, m.fields(api.MaxDepth, api.MaxFields-1)...)
}

// paths are some of a schema's, a few of them twice.
func (m *mix) paths(s api.Schema) (l []string) {
	for range 1 + m.below(4) {
		l = append(l, schema.Path(s, 1+m.below(len(s)-1)))
	}
	return l
}

// value makes one of the field at a place, and tells where the next field is.
func (m *mix) value(s api.Schema, at int) (t api.Tree, next int) {
	if s[at].Kind == api.Bytes {
		return api.Tree{S: strings.Repeat("y", m.below(3))}, at + 1
	}
	if s[at].Kind != api.Group {
		return api.Tree{N: m.below(2)}, at + 1
	}
	next = at + 1
	for range s[at].Kids {
		kid, times := next, []int{1, m.below(2), m.below(4)}[s[next].Rep]
		next = past(s, kid)
		l := make([]api.Tree, times)
		for k := range l {
			l[k], _ = m.value(s, kid)
		}
		t.Kids = append(t.Kids, l)
	}
	return t, next
}

func (m *mix) record(s api.Schema) api.Tree {
	t, _ := m.value(s, 0)
	return t
}

// resolved is Resolve by its words, of paths that a schema has.
func resolved(s api.Schema, paths []string) (keep []bool, p api.Schema) {
	in := schema.Parents(s)
	for i := range s {
		at, is := schema.Path(s, i), i == 0 || len(paths) == 0
		for _, path := range paths {
			is = is || at == path || strings.HasPrefix(at, path+".") || strings.HasPrefix(path, at+".")
		}
		keep = append(keep, is)
	}
	for i, f := range s {
		if !keep[i] {
			continue
		}
		if f.Kind == api.Group {
			f.Kids = 0
			for k := range s {
				if in[k] == i && keep[k] {
					f.Kids++
				}
			}
		}
		p = append(p, f)
	}
	return keep, p
}

// kept is Tree by its words: the fields of a group are passed by one after the other, with all in them.
func kept(s api.Schema, keep []bool, at int, t api.Tree) (out api.Tree, next int) {
	next = at + 1
	if s[at].Kind != api.Group {
		return t, next
	}
	for k := range s[at].Kids {
		kid, l := next, []api.Tree{}
		for _, v := range t.Kids[k] {
			v, _ = kept(s, keep, kid, v)
			l = append(l, v)
		}
		next = past(s, kid)
		if keep[kid] {
			out.Kids = append(out.Kids, l)
		}
	}
	return out, next
}

// past is where the field behind one and all in it is.
func past(s api.Schema, at int) int {
	next := at + 1
	for range s[at].Kids {
		next = past(s, next)
	}
	return next
}

// fits tells whether a value is one of the field at a place, in its lists and numbers.
func fits(s api.Schema, at int, t api.Tree) bool {
	f := s[at]
	if f.Kind != api.Group {
		return len(t.Kids) == 0 && (t.N == 0 || f.Kind != api.Bytes) && (t.S == "" || f.Kind == api.Bytes)
	}
	if t.N != 0 || t.S != "" || len(t.Kids) != f.Kids {
		return false
	}
	at++
	for _, l := range t.Kids {
		if s[at].Rep != api.Repeated && len(l) > 1 || s[at].Rep == api.Required && len(l) != 1 {
			return false
		}
		for _, v := range l {
			if !fits(s, at, v) {
				return false
			}
		}
		at = past(s, at)
	}
	return true
}

func wantResolved(t *testing.T, s api.Schema, paths []string, keep []bool, p api.Schema) {
	t.Helper()
	gotKeep, got, e := project.Resolve(s, paths)
	if e != api.OK || !slices.Equal(gotKeep, keep) || !slices.Equal(got, p) {
		t.Errorf("Resolve(%v, %q): %v, %v, %v, want %v, %v", s, paths, gotKeep, got, e, keep, p)
	}
}

func wantNone(t *testing.T, s api.Schema, paths ...string) {
	t.Helper()
	if keep, p, e := project.Resolve(s, paths); e != api.ErrNone || keep != nil || p != nil {
		t.Errorf("Resolve(%v, %q): %v, %v, %v, want %v", s, paths, keep, p, e, api.ErrNone)
	}
}

// wantTree keeps of a record what paths say.
func wantTree(t *testing.T, s api.Schema, paths []string, r, want api.Tree) {
	t.Helper()
	keep, p, e := project.Resolve(s, paths)
	got := project.Tree(s, keep, r)
	if e != api.OK || shown(got) != shown(want) {
		t.Errorf("Tree(%v, %q, %v): %v, want %v", s, paths, r, got, want)
	}
	if schema.Check(p) != api.OK || !fits(p, 0, got) || tree.Fits(p, got) != api.OK {
		t.Errorf("Tree(%v, %q, %v): %v is no record of %v", s, paths, r, got, p)
	}
}

func TestP701Everything(t *testing.T) {
	s := paper()
	all := slices.Repeat([]bool{true}, len(s))
	wantResolved(t, s, nil, all, s)
	wantResolved(t, s, []string{}, all, s)
	wantResolved(t, s, []string{"id", "links", "name", "old"}, all, s)
	wantResolved(t, s, []string{"old", "name.url", "name.lang", "links.id", "links.back", "id"}, all, s)
	wantResolved(t, group("m", 0, leaf("a", 2, api.Bool)), nil, []bool{true, true}, group("m", 0, leaf("a", 2, api.Bool)))
}

func TestP701Paths(t *testing.T) {
	for paths, want := range map[string]api.Schema{
		"id":                      group("doc", 0, leaf("id", 0, api.Int64)),
		"old":                     group("doc", 0, leaf("old", 1, api.Bool)),
		"links.id":                group("doc", 0, group("links", 1, leaf("id", 2, api.Int32))),
		"links":                   group("doc", 0, group("links", 1, leaf("back", 2, api.Int64), leaf("id", 2, api.Int32))),
		"name.url":                group("doc", 0, group("name", 2, leaf("url", 1, api.Bytes))),
		"name.lang":               group("doc", 0, group("name", 2, group("lang", 0, leaf("code", 0, api.Bytes), group("more", 2, leaf("id", 1, api.Bytes))))),
		"name.lang.code":          group("doc", 0, group("name", 2, group("lang", 0, leaf("code", 0, api.Bytes)))),
		"name.lang.more":          group("doc", 0, group("name", 2, group("lang", 0, group("more", 2, leaf("id", 1, api.Bytes))))),
		"name.lang.more.id":       group("doc", 0, group("name", 2, group("lang", 0, group("more", 2, leaf("id", 1, api.Bytes))))),
		"name.url name.lang.code": group("doc", 0, group("name", 2, group("lang", 0, leaf("code", 0, api.Bytes)), leaf("url", 1, api.Bytes))),
		"old links.back id":       group("doc", 0, leaf("id", 0, api.Int64), group("links", 1, leaf("back", 2, api.Int64)), leaf("old", 1, api.Bool)),
		"links.id links":          group("doc", 0, group("links", 1, leaf("back", 2, api.Int64), leaf("id", 2, api.Int32))),
		"links links.id":          group("doc", 0, group("links", 1, leaf("back", 2, api.Int64), leaf("id", 2, api.Int32))),
		"id id id":                group("doc", 0, leaf("id", 0, api.Int64)),
	} {
		if _, p, e := project.Resolve(paper(), strings.Fields(paths)); e != api.OK || !slices.Equal(p, want) {
			t.Errorf("Resolve(%q): %v, %v, want %v", paths, p, e, want)
		}
	}
	is := func(l ...int) []bool {
		keep := make([]bool, len(paper()))
		for _, i := range l {
			keep[i] = true
		}
		return keep
	}
	for paths, want := range map[string][]bool{
		"id": is(0, 1), "old": is(0, 11), "links": is(0, 2, 3, 4), "links.back": is(0, 2, 3), "name": is(0, 5, 6, 7, 8, 9, 10),
		"name.lang": is(0, 5, 6, 7, 8, 9), "name.lang.more": is(0, 5, 6, 8, 9), "name.url": is(0, 5, 10), "name.lang.code old": is(0, 5, 6, 7, 11),
	} {
		if keep, _, e := project.Resolve(paper(), strings.Fields(paths)); e != api.OK || !slices.Equal(keep, want) {
			t.Errorf("Resolve(%q): %v, %v, want %v", paths, keep, e, want)
		}
	}
}

func TestP701Example(t *testing.T) { wantNone(t, paper(), "none") }

func TestP701NoSuchField(t *testing.T) {
	for _, path := range []string{
		"", ".", "..", "doc", "doc.id", "i", "idd", "ID", " id", "id ", "id.", ".id", "id.id", "link", "links.", ".links", "links..id", "links.i", "links.idd", "links.doc", "links.name", "links.back.id",
		"linksid", "links id", "links/id", "back", "url", "code", "lang", "lang.code", "name.code", "name.lang.id", "name.lang.more.id.", "name.lang.more.id.id", "name.lang.more.more", "name.name", "name.",
		"\x00", "id\x00", "\xff", "links\xff", "links.\xff", "links\u3002id", "\u00e9", "\ufffd", strings.Repeat("id.", 1000), strings.Repeat(".", 1000), strings.Repeat("a", 1000),
	} {
		wantNone(t, paper(), path)
		wantNone(t, paper(), path, "id")
		wantNone(t, paper(), "id", "links", path)
		wantNone(t, paper(), "old", path, path, "name.lang")
	}
}

func TestP701FirstField(t *testing.T) {
	// Its name is on no path; where another field has it, that is the one.
	s := group("m", 0, leaf("a", 0, api.Bool), group("m", 1, leaf("m", 2, api.Bytes), leaf("a", 0, api.Bool)))
	wantResolved(t, s, []string{"m"}, []bool{true, false, true, true, true}, group("m", 0, group("m", 1, leaf("m", 2, api.Bytes), leaf("a", 0, api.Bool))))
	wantResolved(t, s, []string{"m.m"}, []bool{true, false, true, true, false}, group("m", 0, group("m", 1, leaf("m", 2, api.Bytes))))
	wantResolved(t, s, []string{"m.a"}, []bool{true, false, true, false, true}, group("m", 0, group("m", 1, leaf("a", 0, api.Bool))))
	wantResolved(t, s, []string{"a"}, []bool{true, true, false, false, false}, group("m", 0, leaf("a", 0, api.Bool)))
	wantNone(t, s, "m.m.m")
	wantNone(t, s, "m.m.a")
	wantNone(t, s, "")
}

func TestP701NamesLikeOthers(t *testing.T) {
	// A path that is the beginning of another one is not that one's group.
	s := group("m", 0, group("a", 0, leaf("b", 0, api.Bool)), group("ab", 0, leaf("b", 0, api.Bool), leaf("bb", 0, api.Bool)), leaf("abb", 0, api.Bool))
	wantResolved(t, s, []string{"a"}, []bool{true, true, true, false, false, false, false}, group("m", 0, group("a", 0, leaf("b", 0, api.Bool))))
	wantResolved(t, s, []string{"ab.b"}, []bool{true, false, false, true, true, false, false}, group("m", 0, group("ab", 0, leaf("b", 0, api.Bool))))
	wantResolved(t, s, []string{"abb"}, []bool{true, false, false, false, false, false, true}, group("m", 0, leaf("abb", 0, api.Bool)))
	wantNone(t, s, "a.bb")
}

func TestP701DeepFields(t *testing.T) {
	s, want := leaf("x", 2, api.Bytes), leaf("x", 2, api.Bytes)
	for range 7 {
		s, want = group("g", 2, leaf("a", 0, api.Bool), s, leaf("b", 1, api.Int32)), group("g", 2, want)
	}
	s, want = group("m", 0, leaf("a", 0, api.Bool), s), group("m", 0, want)
	if schema.Check(s) != api.OK {
		t.Fatal(schema.Check(s))
	}
	path := strings.Repeat("g.", 7) + "x"
	keep, _ := resolved(s, []string{path})
	wantResolved(t, s, []string{path}, keep, want)
	wantNone(t, s, "g."+path)
	wantNone(t, s, path+".x")
}

func TestP701AnyPaths(t *testing.T) {
	m := seed
	for range 5000 {
		s := m.schema()
		paths := m.paths(s)
		if m.below(20) == 0 {
			paths = nil
		}
		keep, p := resolved(s, paths)
		wantResolved(t, s, paths, keep, p)
	}
}

func TestP701AnyPathsOfNoField(t *testing.T) {
	m := seed
	for range 5000 {
		s := m.schema()
		paths := m.paths(s)
		b := []byte(paths[m.below(len(paths))])
		for range 1 + m.below(2) {
			b = slices.Insert(b, m.below(len(b)+1), "ab0_."[m.below(5)])
		}
		paths = slices.Insert(paths, m.below(len(paths)+1), string(b))
		is := false
		for i := range s[1:] {
			is = is || schema.Path(s, i+1) == string(b)
		}
		if !is {
			wantNone(t, s, paths...)
			continue
		}
		keep, p := resolved(s, paths)
		wantResolved(t, s, paths, keep, p)
	}
}

func TestP701ManyPaths(t *testing.T) {
	s := paper()
	keep, p := resolved(s, []string{"id", "links.back"})
	wantResolved(t, s, slices.Repeat([]string{"links.back", "id"}, 5000), keep, p)
	wantNone(t, s, append(slices.Repeat([]string{"links.back"}, 5000), "back")...)
}

func TestP701Trees(t *testing.T) {
	for paths, want := range map[string]api.Tree{
		"":               print(),
		"id":             g(n(10)),
		"old":            g(n(1)),
		"old id":         g(n(10), n(1)),
		"links":          g(some(g(n(20, 40), nil))),
		"links.back":     g(some(g(n(20, 40)))),
		"links.id":       g(some(g(nil))),
		"name.url":       g(some(g(x("http")), g(nil))),
		"name.lang.code": g(some(g(some(g(x("en")))), g(some(g(x("")))))),
		"name.lang.more": g(some(g(some(g(some(g(x("us")), g(nil), g(x("")))))), g(some(g(nil))))),
		"name.lang":      g(some(g(some(g(x("en"), some(g(x("us")), g(nil), g(x("")))))), g(some(g(x(""), nil))))),
		"name.url id name.lang.code": g(n(10), some(
			g(some(g(x("en"))), x("http")),
			g(some(g(x(""))), nil))),
	} {
		wantTree(t, paper(), strings.Fields(paths), print(), want)
	}
	// Of what isn't there nothing is kept, but its list is.
	empty := g(n(0), nil, nil, nil)
	wantTree(t, paper(), nil, empty, empty)
	wantTree(t, paper(), []string{"links"}, empty, g(nil))
	wantTree(t, paper(), []string{"links.back", "name.url", "old"}, empty, g(nil, nil, nil))
	wantTree(t, paper(), []string{"id"}, empty, g(n(0)))
}

func TestP701Values(t *testing.T) {
	s := group("m", 0, leaf("b", 2, api.Bool), leaf("i", 2, api.Int32), leaf("l", 2, api.Int64), leaf("s", 2, api.Bytes))
	r := g(n(0, 1), n(math.MinInt32, -1, 0, math.MaxInt32), n(math.MinInt64, -1, 0, math.MaxInt64), x("", "\x00", "\xff", "\u00e9", strings.Repeat("z", 100)))
	wantTree(t, s, nil, r, r)
	for i, path := range []string{"b", "i", "l", "s"} {
		wantTree(t, s, []string{path}, r, g(r.Kids[i]))
	}
	// As many as there may be.
	l := make([]api.Tree, api.MaxList)
	for i := range l {
		l[i].N = i
	}
	wantTree(t, s, []string{"l", "b"}, g(nil, nil, l, nil), g(nil, l))
}

func TestP702AnyRecord(t *testing.T) {
	m := seed
	for range 5000 {
		s := m.schema()
		r, paths := m.record(s), m.paths(s)
		if !fits(s, 0, r) {
			t.Fatalf("%v is no record of %v", r, s)
		}
		keep, _ := resolved(s, paths)
		want, _ := kept(s, keep, 0, r)
		wantTree(t, s, paths, r, want)
		wantTree(t, s, nil, r, r)
	}
}

func TestP702PartsOfParts(t *testing.T) {
	// What is kept of what was kept is what is kept at once.
	m := seed
	for range 2000 {
		s := m.schema()
		r := m.record(s)
		more := m.paths(s)
		paths := more[:1+m.below(len(more))]
		keepMore, p, _ := project.Resolve(s, more)
		keep, want, _ := project.Resolve(s, paths)
		keepThen, got, e := project.Resolve(p, paths)
		if e != api.OK || !slices.Equal(got, want) {
			t.Fatalf("Resolve(%v, %q): %v, %v, want %v", p, paths, got, e, want)
		}
		then := project.Tree(p, keepThen, project.Tree(s, keepMore, r))
		if once := project.Tree(s, keep, r); shown(then) != shown(once) {
			t.Fatalf("Tree(%v, %q, %v): %v, want %v", p, paths, r, then, once)
		}
	}
}

func TestP1NoSchemas(t *testing.T) {
	m := seed
	numbers := []int{math.MinInt, -1 << 62, -2, -1, 0, 0, 0, 0, 1, 1, 1, 2, 2, 3, 4, 5, 40, 1 << 62, math.MaxInt}
	pick := func() int { return numbers[m.below(len(numbers))] }
	for range 5000 {
		s := make(api.Schema, m.below(60))
		for i := range s {
			s[i] = api.Field{Name: m.name(), Rep: pick(), Kind: pick(), Kids: pick()}
		}
		keep, _, _ := project.Resolve(s, []string{m.name()})
		project.Resolve(s, nil)
		project.Tree(s, keep, print())
		project.Tree(s, slices.Repeat([]bool{true}, len(s)), print())
	}
	inside := make(api.Schema, 200000)
	for i := range inside {
		inside[i] = api.Field{Name: "a", Kids: 1}
	}
	for _, s := range []api.Schema{nil, {}, group("m", 0), leaf("a", 0, 1), paper()[:5], paper()[1:], {{Name: "m", Kids: 99}}, append(paper(), paper()...), inside} {
		for _, paths := range [][]string{nil, {""}, {"a"}, {"id"}, {"links.id"}, {strings.Repeat("a.", 1000) + "a"}} {
			keep, _, _ := project.Resolve(s, paths)
			project.Tree(s, keep, print())
		}
		project.Tree(s, slices.Repeat([]bool{true}, len(s)), print())
	}
}

func TestP1NoRecords(t *testing.T) {
	// One that is in itself, without end.
	loop := g(nil, nil, nil, nil)
	for i := range loop.Kids {
		loop.Kids[i] = some(loop)
	}
	deep := api.Tree{N: 1}
	for range 200000 {
		deep = g(some(deep))
	}
	all, _, _ := project.Resolve(paper(), nil)
	for _, keep := range [][]bool{nil, {}, {true}, all, all[:11], append(slices.Clone(all), true), make([]bool, 12)} {
		for _, r := range []api.Tree{{}, {N: 1, S: "x"}, g(), g(nil), g(nil, nil, nil, nil, nil, nil), g(n(1, 2), n(3)), g(nil, n(1, 2), x("a", "b"), x("a")), g(some(print()), some(print()), some(print())), loop, deep} {
			project.Tree(paper(), keep, r)
		}
	}
	m := seed
	for range 5000 {
		s, other := m.schema(), m.schema()
		keep, _, _ := project.Resolve(s, m.paths(s))
		keepOther, _, _ := project.Resolve(other, m.paths(other))
		project.Tree(s, keep, m.record(other))
		project.Tree(s, keepOther, m.record(s))
	}
}

func TestP2ArgumentsAreLeft(t *testing.T) {
	room := append(paper(), paper()...)
	s := room[:len(paper())]
	spare := []string{"name.url", "id", "links", "old"}
	keep, _, _ := project.Resolve(s, spare[:2])
	project.Resolve(s, []string{"none"})
	spareKeep := append(slices.Clone(keep), true, true)
	r := print()
	r.Kids = append(r.Kids, n(7))[:4]
	r.Kids[1] = append(r.Kids[1], n(8)...)[:1]
	was := shown(r)
	project.Tree(s, spareKeep[:len(s)], r)
	if !slices.Equal(room, append(paper(), paper()...)) || !slices.Equal(spare, []string{"name.url", "id", "links", "old"}) {
		t.Errorf("Resolve changed %v, %q", room, spare)
	}
	if !slices.Equal(spareKeep, append(slices.Clone(keep), true, true)) || shown(r) != was || r.Kids[:5][4][0].N != 7 || r.Kids[1][:2][1].N != 8 {
		t.Errorf("Tree changed %v, %v", spareKeep, r)
	}
}

// spoil changes all that slices of a tree reach, what is behind their ends too.
func spoil(t api.Tree) {
	for _, l := range t.Kids {
		for _, v := range l {
			spoil(v)
		}
		for i := range l[:cap(l)] {
			l[:cap(l)][i] = api.Tree{N: 99, S: "spoilt"}
		}
	}
	for i := range t.Kids[:cap(t.Kids)] {
		t.Kids[:cap(t.Kids)][i] = n(99)
	}
}

func TestP2ResultsAreNew(t *testing.T) {
	for _, paths := range [][]string{nil, {"name"}, {"id", "links.id"}} {
		s, r := paper(), print()
		keep, p, _ := project.Resolve(s, paths)
		wasKeep, was := resolved(s, paths)
		for i := range p[:cap(p)] {
			p[:cap(p)][i] = api.Field{Name: "spoilt", Kids: 9}
		}
		if !slices.Equal(keep, wasKeep) || !slices.Equal(s, paper()) {
			t.Errorf("keep %v, or the schema %v, shares with p", keep, s)
		}
		got := project.Tree(s, keep, r)
		spoil(got)
		if shown(r) != shown(print()) {
			t.Errorf("the record shares with what is kept of it: %v", r)
		}
		for i := range keep[:cap(keep)] {
			keep[:cap(keep)][i] = false
		}
		wantResolved(t, s, paths, wasKeep, was)
	}
}

// lists are the slices of a tree, as far as they have room.
func lists(t api.Tree) (at []uintptr) {
	if cap(t.Kids) > 0 {
		at = append(at, uintptr(unsafe.Pointer(unsafe.SliceData(t.Kids))))
	}
	for _, l := range t.Kids {
		if cap(l) > 0 {
			at = append(at, uintptr(unsafe.Pointer(unsafe.SliceData(l))))
		}
		for _, v := range l {
			at = append(at, lists(v)...)
		}
	}
	return at
}

func TestP2NoListsShare(t *testing.T) {
	// A record whose groups are one and the same becomes one whose groups are apart.
	s := group("m", 0, group("g", 2, group("h", 2, leaf("a", 2, api.Int32))), group("i", 2, group("h", 2, leaf("a", 2, api.Int32))))
	one := g(some(g(n(1, 2)), g(n(1, 2))))
	r := g(some(one, one), some(one, one))
	for _, paths := range [][]string{nil, {"g"}, {"i", "g"}} {
		keep, _, _ := project.Resolve(s, paths)
		at := lists(project.Tree(s, keep, r))
		slices.Sort(at)
		if n := len(at); len(slices.Compact(at)) != n {
			t.Errorf("%q: of %d lists some share memory", paths, n)
		}
	}
}

// within tells whether the bytes of part are some of those of s.
func within(s, part string) bool {
	begin, at := uintptr(unsafe.Pointer(unsafe.StringData(s))), uintptr(unsafe.Pointer(unsafe.StringData(part)))
	return begin <= at && at < begin+uintptr(len(s))
}

func TestP2NothingIsKept(t *testing.T) {
	// Names and values may be parts of a great text, which they would keep.
	text := strings.Clone("message m { repeated bytes s; }")
	s := group(text[8:9], 0, leaf(text[27:28], 2, api.Bytes))
	keep, p, _ := project.Resolve(s, []string{"s"})
	for _, f := range p {
		if within(text, f.Name) {
			t.Errorf("the name %q lies in the text", f.Name)
		}
	}
	for _, v := range project.Tree(s, keep, g(x(text[:7], text))).Kids[0] {
		if within(text, v.S) {
			t.Errorf("the value %q lies in the text", v.S)
		}
	}
}

func TestP3TheSameCalls(t *testing.T) {
	for range 3 {
		keep, p := resolved(paper(), []string{"name.url"})
		wantResolved(t, paper(), []string{"name.url"}, keep, p)
		wantNone(t, paper(), "name.url", "x")
		wantTree(t, paper(), []string{"name.url"}, print(), g(some(g(x("http")), g(nil))))
		project.Resolve(nil, nil)
		project.Tree(nil, nil, print())
	}
}

func TestP4NothingBesideErrors(t *testing.T) {
	wantNone(t, paper(), "id", "links", "x")
	wantNone(t, paper(), "")
	for _, s := range []api.Schema{nil, paper()[:5], append(paper(), paper()...)} {
		if keep, p, e := project.Resolve(s, nil); e == api.OK || keep != nil || p != nil {
			t.Errorf("Resolve(%v): %v, %v, %v", s, keep, p, e)
		}
	}
	// A field of what is kept says no more than the schema's.
	_, p, _ := project.Resolve(paper(), []string{"id", "name.url"})
	if want := (api.Field{Name: "id", Kind: api.Int64}); p[1] != want {
		t.Errorf("%v, want %v", p[1], want)
	}
	// A group of what is kept has no number and no string.
	all, _, _ := project.Resolve(paper(), nil)
	if got := project.Tree(paper(), all, print()); got.N != 0 || got.S != "" || got.Kids[1][0].N != 0 {
		t.Errorf("%v", got)
	}
}
