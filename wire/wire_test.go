package wire_test

import (
	"bytes"
	"encoding/binary"
	"fmt"
	"math"
	"slices"
	"strings"
	"testing"

	"shredder/api"
	"shredder/schema"
	"shredder/tree"
	"shredder/wire"
)

// leaf, group tell fields as they lie in a schema: a group's own ones behind it.
func leaf(name string, rep, kind int) api.Schema {
	return api.Schema{{Name: name, Rep: rep, Kind: kind}}
}

func group(name string, rep int, inside ...api.Schema) api.Schema {
	s := api.Schema{{Name: name, Rep: rep, Kind: api.Group, Kids: len(inside)}}
	for _, x := range inside {
		s = append(s, x...)
	}
	return s
}

// root is a schema.
func root(inside ...api.Schema) api.Schema { return group("m", api.Required, inside...) }

// paper has groups side by side and in one another, of every Rep, and leaves of every kind.
func paper() api.Schema {
	return root(
		leaf("id", api.Required, api.Int64),
		group("links", api.Optional,
			leaf("back", api.Repeated, api.Int64),
			leaf("fore", api.Repeated, api.Int32)),
		group("name", api.Repeated,
			group("lang", api.Required,
				leaf("code", api.Required, api.Bytes),
				leaf("land", api.Optional, api.Bytes)),
			leaf("url", api.Optional, api.Bytes)),
		leaf("old", api.Optional, api.Bool))
}

// n, x, g are values: numbers, strings, and a group with what is there of each of its fields.
func n(l ...int) (t []api.Tree) {
	for _, v := range l {
		t = append(t, api.Tree{N: v})
	}
	return t
}

func x(l ...string) (t []api.Tree) {
	for _, v := range l {
		t = append(t, api.Tree{S: v})
	}
	return t
}

func g(fields ...[]api.Tree) api.Tree { return api.Tree{Kids: fields} }

// some are trees as a list.
func some(l ...api.Tree) []api.Tree { return l }

// prints are records of paper, printed their bytes.
func prints() []api.Tree {
	return some(
		g(n(-2),
			some(g(n(258, -1), n(-2, 1))),
			some(
				g(some(g(x("en"), x("us"))), x("http")),
				g(some(g(x(""), nil)), nil)),
			n(1)),
		g(n(0), some(g(nil, nil)), nil, n(0)),
		g(n(5), nil, some(g(some(g(x("\x00\xff"), x(""))), x(""))), nil))
}

func printed() string {
	return "\x03" +
		"\xfe\xff\xff\xff\xff\xff\xff\xff" +
		"\x01" + "\x02\x02\x01\x00\x00\x00\x00\x00\x00\xff\xff\xff\xff\xff\xff\xff\xff" + "\x02\xfe\xff\xff\xff\x01\x00\x00\x00" +
		"\x02" + "\x02en\x01\x02us" + "\x01\x04http" + "\x00\x00" + "\x00" +
		"\x01\x01" +
		"\x00\x00\x00\x00\x00\x00\x00\x00" + "\x01\x00\x00" + "\x00" + "\x01\x00" +
		"\x05\x00\x00\x00\x00\x00\x00\x00" + "\x00" + "\x01" + "\x02\x00\xff\x01\x00" + "\x01\x00" + "\x00"
}

// shown are trees in words: those of trees that differ differ, and a list that is nil and one that is empty are the same.
func shown(l ...api.Tree) (words string) {
	for _, t := range l {
		words += fmt.Sprintf("%d %q (", t.N, t.S)
		for _, kids := range t.Kids {
			words += "[" + shown(kids...) + "]"
		}
		words += "),"
	}
	return words
}

// past is where the field behind one and all in it is.
func past(s api.Schema, at int) int {
	next := at + 1
	for range s[at].Kids {
		next = past(s, next)
	}
	return next
}

// written is Bytes by its words.
func written(s api.Schema, l []api.Tree) []byte {
	b := binary.AppendUvarint(nil, uint64(len(l)))
	for _, t := range l {
		b = append(b, valueBytes(s, 0, t)...)
	}
	return b
}

func valueBytes(s api.Schema, at int, t api.Tree) (b []byte) {
	switch s[at].Kind {
	case api.Bool:
		return []byte{byte(t.N)}
	case api.Int32:
		return binary.LittleEndian.AppendUint32(nil, uint32(int32(t.N)))
	case api.Int64:
		return binary.LittleEndian.AppendUint64(nil, uint64(t.N))
	case api.Bytes:
		return append(binary.AppendUvarint(nil, uint64(len(t.S))), t.S...)
	}
	at++
	for _, kids := range t.Kids {
		switch s[at].Rep {
		case api.Optional:
			b = append(b, byte(len(kids)))
		case api.Repeated:
			b = binary.AppendUvarint(b, uint64(len(kids)))
		}
		for _, v := range kids {
			b = append(b, valueBytes(s, at, v)...)
		}
		at = past(s, at)
	}
	return b
}

// reading reads by the words of Parse; what is wrong is a panic of its error.
type reading struct {
	s api.Schema
	b []byte
}

func (r *reading) take(n int) []byte {
	if n > len(r.b) {
		panic(api.ErrCut)
	}
	b := r.b[:n]
	r.b = r.b[n:]
	return b
}

func (r *reading) upTo(most uint64, e api.Errno) int {
	var v uint64
	for i := 0; ; i++ {
		c := r.take(1)[0]
		v |= uint64(c&127) << (7 * i)
		switch {
		case i == 9 && c > 1:
			panic(api.ErrOver)
		case c >= 128:
		case c == 0 && i > 0:
			panic(api.ErrBad)
		case v > most:
			panic(e)
		default:
			return int(v)
		}
	}
}

func (r *reading) bit() int {
	c := r.take(1)[0]
	if c > 1 {
		panic(api.ErrBad)
	}
	return int(c)
}

func (r *reading) value(at int) (t api.Tree) {
	switch r.s[at].Kind {
	case api.Bool:
		return api.Tree{N: r.bit()}
	case api.Int32:
		return api.Tree{N: int(int32(binary.LittleEndian.Uint32(r.take(4))))}
	case api.Int64:
		return api.Tree{N: int(binary.LittleEndian.Uint64(r.take(8)))}
	case api.Bytes:
		return api.Tree{S: string(r.take(r.upTo(100, api.ErrLong)))}
	}
	kid := at + 1
	for range r.s[at].Kids {
		many := 1
		switch r.s[kid].Rep {
		case api.Optional:
			many = r.bit()
		case api.Repeated:
			many = r.upTo(50, api.ErrMany)
		}
		l := []api.Tree{}
		for range many {
			l = append(l, r.value(kid))
		}
		t.Kids = append(t.Kids, l)
		kid = past(r.s, kid)
	}
	return t
}

// read is Parse by its words.
func read(s api.Schema, b []byte) (l []api.Tree, e api.Errno) {
	defer func() {
		if wrong, ok := recover().(api.Errno); ok {
			l, e = nil, wrong
		}
	}()
	r := reading{s, b}
	for range r.upTo(200, api.ErrMany) {
		l = append(l, r.value(0))
	}
	if len(r.b) > 0 {
		panic(api.ErrMore)
	}
	return l, api.OK
}

// mix tells numbers in whose bits there is no order to be seen.
type mix uint64

const seed = mix(88172645463325252)

func (m *mix) below(n int) int {
	*m ^= *m << 13
	*m ^= *m >> 7
	*m ^= *m << 17
	return int(*m >> 1 % mix(n))
}

func pick[T any](m *mix, l ...T) T { return l[m.below(len(l))] }

// fields makes a group of at least one field: at most room in all, no deeper than depth says.
func (m *mix) fields(depth, room int) (list []api.Schema) {
	for room > 0 && (len(list) == 0 || m.below(4) > 0) {
		name := fmt.Sprint("a", len(list))
		f := leaf(name, m.below(3), 1+m.below(4))
		if depth > 1 && room > 1 && m.below(2) == 0 {
			f = group(name, m.below(3), m.fields(depth-1, room-1)...)
		}
		list, room = append(list, f), room-len(f)
	}
	return list
}

func (m *mix) schema() api.Schema { return root(m.fields(api.MaxDepth, api.MaxFields-1)...) }

func (m *mix) number(kind int) int {
	switch kind {
	case api.Bool:
		return m.below(2)
	case api.Int32:
		return pick(m, math.MinInt32, -256, -1, 0, 1, 255, 256, math.MaxInt32, int(int32(m.below(1<<32))))
	}
	return pick(m, math.MinInt64, math.MinInt32-1, -1, 0, 1, 1<<32, math.MaxInt64, m.below(math.MaxInt64))
}

// value makes one of the field at a place.
func (m *mix) value(s api.Schema, at int) (t api.Tree) {
	switch s[at].Kind {
	case api.Group:
	case api.Bytes:
		return api.Tree{S: strings.Repeat(pick(m, "y", "\xff", "\x00", "\u00e9"), pick(m, 0, 1, 2, 50))}
	default:
		return api.Tree{N: m.number(s[at].Kind)}
	}
	kid := at + 1
	for range s[at].Kids {
		l := make([]api.Tree, []int{1, m.below(2), m.below(4)}[s[kid].Rep])
		for k := range l {
			l[k] = m.value(s, kid)
		}
		t.Kids = append(t.Kids, l)
		kid = past(s, kid)
	}
	return t
}

func (m *mix) records(s api.Schema) (l []api.Tree) {
	for range m.below(4) {
		l = append(l, m.value(s, 0))
	}
	return l
}

// spoil changes bytes, so that they are often none of records.
func (m *mix) spoil(b []byte) []byte {
	at := m.below(len(b) + 1)
	odd := pick(m, 0, 1, 2, 3, 50, 51, 100, 101, 127, 128, 200, 255)
	switch m.below(4) {
	case 0:
		return b[:at]
	case 1:
		return slices.Insert(b, at, byte(odd))
	case 2:
		return slices.Delete(b, at, min(at+1, len(b)))
	}
	if at < len(b) {
		b[at] = byte(odd)
	}
	return b
}

func wantBytes(t *testing.T, s api.Schema, l []api.Tree, want string) {
	t.Helper()
	if got := wire.Bytes(s, l); string(got) != want {
		t.Errorf("Bytes(%v, %s): %q, want %q", s, shown(l...), got, want)
	}
}

func wantRecords(t *testing.T, s api.Schema, b string, want []api.Tree) {
	t.Helper()
	if l, e := wire.Parse(s, []byte(b)); e != api.OK || shown(l...) != shown(want...) {
		t.Errorf("Parse(%v, %q): %v, %s, want %s", s, b, e, shown(l...), shown(want...))
	}
}

// wantBoth asks for the bytes of records, and for the records of these.
func wantBoth(t *testing.T, s api.Schema, l []api.Tree, b string) {
	t.Helper()
	wantBytes(t, s, l, b)
	wantRecords(t, s, b, l)
}

func wantError(t *testing.T, s api.Schema, b string, want api.Errno) {
	t.Helper()
	if l, e := wire.Parse(s, []byte(b)); e != want || len(l) != 0 {
		t.Errorf("Parse(%v, %q): %v and %d records, want %v and none", s, b, e, len(l), want)
	}
}

// wantLeaf asks for records whose one leaf has a value; its bytes are b.
func wantLeaf(t *testing.T, kind int, v api.Tree, b string) {
	t.Helper()
	wantBoth(t, root(leaf("a", 0, kind)), some(g(some(v))), "\x01"+b)
	wantBoth(t, root(leaf("a", 1, kind)), some(g(some(v)), g(nil)), "\x02\x01"+b+"\x00")
	wantBoth(t, root(leaf("a", 2, kind)), some(g(some(v, v)), g(nil), g(some(v))), "\x03\x02"+b+b+"\x00\x01"+b)
	wantBoth(t, root(leaf("b", 0, api.Bool), leaf("a", 0, kind), leaf("c", 0, api.Bool)), some(g(n(1), some(v), n(0))), "\x01\x01"+b+"\x00")
	wantBoth(t, root(group("g", 0, leaf("a", 0, kind)), leaf("c", 0, api.Bool)), some(g(some(g(some(v))), n(1))), "\x01"+b+"\x01")
}

func TestP901Example(t *testing.T) {
	m := seed
	for _, s := range []api.Schema{paper(), root(leaf("a", 0, api.Bool)), m.schema(), m.schema()} {
		wantBytes(t, s, nil, "\x00")
		wantBytes(t, s, []api.Tree{}, "\x00")
		wantRecords(t, s, "\x00", nil)
	}
}

func TestP901Records(t *testing.T) {
	if e := schema.Check(paper()); e != api.OK {
		t.Fatal(e)
	}
	for _, r := range prints() {
		if e := tree.Fits(paper(), r); e != api.OK {
			t.Fatal(e)
		}
	}
	wantBoth(t, paper(), prints(), printed())
	wantBoth(t, paper(), some(g(n(1), []api.Tree{}, []api.Tree{}, []api.Tree{})), "\x01\x01\x00\x00\x00\x00\x00\x00\x00\x00\x00\x00")
}

func TestP901HowManyRecords(t *testing.T) {
	s := root(leaf("a", 0, api.Bool))
	for many, count := range map[int]string{0: "\x00", 1: "\x01", 2: "\x02", 127: "\x7f", 128: "\x80\x01", 199: "\xc7\x01", 200: "\xc8\x01"} {
		wantBoth(t, s, slices.Repeat(some(g(n(1))), many), count+strings.Repeat("\x01", many))
	}
	// Only to be read they may be too many.
	wantBytes(t, s, slices.Repeat(some(g(n(0))), 201), "\xc9\x01"+strings.Repeat("\x00", 201))
	wantBytes(t, s, slices.Repeat(some(g(n(1))), 1000), "\xe8\x07"+strings.Repeat("\x01", 1000))
}

func TestP901Leaves(t *testing.T) {
	wantLeaf(t, api.Bool, api.Tree{}, "\x00")
	wantLeaf(t, api.Bool, api.Tree{N: 1}, "\x01")
	for v, b := range map[int]string{0: "\x00\x00\x00\x00", 1: "\x01\x00\x00\x00", -1: "\xff\xff\xff\xff", -2: "\xfe\xff\xff\xff", 258: "\x02\x01\x00\x00", 0x01020304: "\x04\x03\x02\x01", math.MaxInt32: "\xff\xff\xff\x7f", math.MinInt32: "\x00\x00\x00\x80"} {
		wantLeaf(t, api.Int32, api.Tree{N: v}, b)
		sign := "\x00\x00\x00\x00"
		if v < 0 {
			sign = "\xff\xff\xff\xff"
		}
		wantLeaf(t, api.Int64, api.Tree{N: v}, b+sign)
	}
	for v, b := range map[int]string{1 << 32: "\x00\x00\x00\x00\x01\x00\x00\x00", math.MaxInt32 + 1: "\x00\x00\x00\x80\x00\x00\x00\x00", math.MinInt32 - 1: "\xff\xff\xff\x7f\xff\xff\xff\xff", 0x0102030405060708: "\x08\x07\x06\x05\x04\x03\x02\x01", math.MaxInt64: "\xff\xff\xff\xff\xff\xff\xff\x7f", math.MinInt64: "\x00\x00\x00\x00\x00\x00\x00\x80"} {
		wantLeaf(t, api.Int64, api.Tree{N: v}, b)
	}
	for _, v := range []string{"", "\x00", "a", "\xff", "\x80\x00", "hello", "\u00e9", "\U0001f600", strings.Repeat("\xff", 99), strings.Repeat("\x00", 100), strings.Repeat("\u00e9", 50)} {
		wantLeaf(t, api.Bytes, api.Tree{S: v}, string([]byte{byte(len(v))})+v)
	}
}

func TestP901HowOften(t *testing.T) {
	for many := range 51 {
		count := string([]byte{byte(many)})
		wantBoth(t, root(leaf("a", 2, api.Bool)), some(g(slices.Repeat(n(1), many))), "\x01"+count+strings.Repeat("\x01", many))
		wantBoth(t, root(leaf("a", 2, api.Bytes)), some(g(slices.Repeat(x("hi"), many))), "\x01"+count+strings.Repeat("\x02hi", many))
		wantBoth(t, root(group("a", 2, leaf("b", 1, api.Bool))), some(g(slices.Repeat(some(g(nil)), many))), "\x01"+count+strings.Repeat("\x00", many))
		wantBoth(t, root(group("a", 2, leaf("b", 2, api.Int32)), leaf("c", 1, api.Bool)), some(g(slices.Repeat(some(g(n(3, 4))), many), n(1))), "\x01"+count+strings.Repeat("\x02\x03\x00\x00\x00\x04\x00\x00\x00", many)+"\x01\x01")
	}
}

func TestP901Groups(t *testing.T) {
	for rep, ahead := range []string{"", "\x01", "\x01"} {
		// A group itself has no byte: it is its fields, in order.
		s := root(group("a", rep, leaf("b", 1, api.Bool), leaf("c", 0, api.Bool), leaf("d", 2, api.Bool)), leaf("e", 1, api.Bool))
		wantBoth(t, s, some(g(some(g(nil, n(1), nil)), nil)), "\x01"+ahead+"\x00\x01\x00\x00")
		wantBoth(t, s, some(g(some(g(n(0), n(1), n(0, 1))), n(0))), "\x01"+ahead+"\x01\x00\x01\x02\x00\x01\x01\x00")
		if rep != api.Required {
			wantBoth(t, s, some(g(nil, n(1))), "\x01\x00\x01\x01")
		}
	}
	// Groups that end together, and one behind them.
	s := root(group("a", 1, group("b", 2, group("c", 0, leaf("d", 1, api.Bool)))), group("e", 1, leaf("f", 0, api.Bool)))
	c := func(l ...int) api.Tree { return g(some(g(n(l...)))) }
	wantBoth(t, s, some(g(nil, nil), g(some(g(nil)), some(g(n(1)))), g(some(g(some(c(), c(0), c(1)))), nil)), "\x03"+"\x00\x00"+"\x01\x00\x01\x01"+"\x01\x03\x00\x01\x00\x01\x01\x00")
}

func TestP901Depth(t *testing.T) {
	// As deep and as wide as a schema may be.
	s, r, b := leaf("a", 2, api.Bool), n(1, 0), "\x02\x01\x00"
	for k := range 7 {
		s = group("g", 2, s, leaf("z", 1, api.Bool))
		r, b = some(g(r, n(1)), g(nil, nil)), "\x02"+b+"\x01\x01\x00\x00"
		wantBoth(t, root(s), some(g(r)), "\x01"+b)
		if e := schema.Check(root(s)); e != api.OK {
			t.Errorf("%d: %v", k, e)
		}
	}
	var wide []api.Schema
	var lists [][]api.Tree
	b = "\x01"
	for k := range 39 {
		wide, lists = append(wide, leaf(fmt.Sprint("a", k), k%3, api.Bool)), append(lists, n(k%2))
		b += strings.Repeat("\x01", min(k%3, 1)) + string([]byte{byte(k % 2)})
	}
	wantBoth(t, root(wide...), some(g(lists...)), b)
}

func TestP901ByItsWords(t *testing.T) {
	m := seed
	for range 4000 {
		s := m.schema()
		l := m.records(s)
		wantBytes(t, s, l, string(written(s, l)))
	}
}

func TestP902HowManyRecords(t *testing.T) {
	s := root(leaf("a", 0, api.Bool))
	for _, count := range []string{"\xc9\x01", "\xca\x01", "\xff\x01", "\x80\x02", "\xc8\x02", "\xff\xff\xff\xff\x0f", "\x80\x80\x80\x80\x10", "\xff\xff\xff\xff\xff\xff\xff\xff\x7f", "\xff\xff\xff\xff\xff\xff\xff\xff\xff\x01", "\x80\x80\x80\x80\x80\x80\x80\x80\x80\x01"} {
		for _, b := range []string{"", "\x00", "\x02", strings.Repeat("\x00", 201), strings.Repeat("\x01", 1000)} {
			wantError(t, s, count+b, api.ErrMany)
		}
	}
	wantError(t, s, "\xc8\x01"+strings.Repeat("\x00", 199), api.ErrCut)
	wantRecords(t, s, "\xc8\x01"+strings.Repeat("\x00", 200), slices.Repeat(some(g(n(0))), 200))
	wantError(t, s, "\xc8\x01"+strings.Repeat("\x00", 201), api.ErrMore)
}

func TestP902HowManyValues(t *testing.T) {
	for _, s := range []api.Schema{root(leaf("a", 2, api.Bool)), root(leaf("a", 2, api.Bytes)), root(group("a", 2, leaf("b", 1, api.Bool)))} {
		for _, count := range []string{"\x33", "\x34", "\x64", "\x7f", "\x80\x01", "\xb2\x02", "\x80\x02", "\x80\x80\x80\x80\x10", "\xff\xff\xff\xff\xff\xff\xff\xff\xff\x01"} {
			for _, b := range []string{"", "\x02", "\xff", strings.Repeat("\x00", 300)} {
				wantError(t, s, "\x01"+count+b, api.ErrMany)
				wantError(t, s, "\x02\x00"+count+b, api.ErrMany)
				wantError(t, root(group("g", 2, s[1:])), "\x01\x02\x00"+count+b, api.ErrMany)
			}
		}
		wantError(t, s, "\x01\x32"+strings.Repeat("\x00", 49), api.ErrCut)
		wantError(t, s, "\x01\x32"+strings.Repeat("\x00", 51), api.ErrMore)
	}
	// The bound is one list's.
	s := root(group("a", 2, leaf("b", 2, api.Bool)))
	wantRecords(t, s, "\x01\x32"+strings.Repeat("\x32"+strings.Repeat("\x01", 50), 50), some(g(slices.Repeat(some(g(slices.Repeat(n(1), 50))), 50))))
}

func TestP902Flags(t *testing.T) {
	for c := range 256 {
		b := string([]byte{byte(c)})
		want := api.ErrBad
		if c < 2 {
			want = api.OK
		}
		is := func(s api.Schema, ahead, behind string, r api.Tree) {
			t.Helper()
			if want == api.OK {
				wantRecords(t, s, ahead+b+behind, some(r))
				return
			}
			wantError(t, s, ahead+b+behind, want)
			wantError(t, s, ahead+b, want) // as soon as it has been read
		}
		is(root(leaf("a", 0, api.Bool)), "\x01", "", g(n(c)))
		is(root(leaf("a", 1, api.Bool)), "\x01\x01", "", g(n(c)))
		is(root(leaf("a", 2, api.Bool)), "\x01\x02\x01", "", g(n(1, c)))
		is(root(leaf("a", 1, api.Bool)), "\x01", strings.Repeat("\x01", c), g(slices.Repeat(n(1), c)))
		is(root(leaf("a", 1, api.Bytes)), "\x01", strings.Repeat("\x00", c), g(slices.Repeat(x(""), c)))
		is(root(group("a", 1, leaf("b", 1, api.Int64)), leaf("c", 0, api.Bool)), "\x01", strings.Repeat("\x00", c)+"\x01", g(slices.Repeat(some(g(nil)), c), n(1)))
		is(root(group("a", 0, leaf("b", 2, api.Int64), leaf("c", 0, api.Bool))), "\x01\x00", "", g(some(g(nil, n(c)))))
	}
}

func TestP902LongTexts(t *testing.T) {
	for rep, ahead := range []string{"\x01", "\x01\x01", "\x01\x02\x00"} {
		s := root(leaf("a", rep, api.Bytes))
		for _, length := range []string{"\x65", "\x66", "\x7f", "\x80\x01", "\xe4\x01", "\x80\x02", "\xe4\x80\x80\x80\x10", "\xff\xff\xff\xff\xff\xff\xff\xff\x7f", "\xff\xff\xff\xff\xff\xff\xff\xff\xff\x01"} {
			for _, behind := range []int{0, 1, 99, 100, 101, 102, 300} {
				wantError(t, s, ahead+length+strings.Repeat("y", behind), api.ErrLong)
			}
		}
		wantError(t, s, ahead+"\x64"+strings.Repeat("y", 99), api.ErrCut)
		wantError(t, s, ahead+"\x64"+strings.Repeat("y", 101), api.ErrMore)
	}
}

func TestP902Varints(t *testing.T) {
	s := root(leaf("a", 2, api.Int64), leaf("b", 0, api.Bytes))
	for b, want := range map[string]api.Errno{
		"":                                     api.ErrCut,
		"\x80":                                 api.ErrCut,
		"\xff\xff\xff":                         api.ErrCut,
		"\x80\x00":                             api.ErrBad,
		"\x81\x00":                             api.ErrBad,
		"\x81\x80\x00":                         api.ErrBad,
		"\x80\x80\x80\x80\x80\x80\x80\x80\x80": api.ErrCut,
		"\x80\x80\x80\x80\x80\x80\x80\x80\x80\x00": api.ErrBad,
		"\x80\x80\x80\x80\x80\x80\x80\x80\x80\x02": api.ErrOver,
		"\xff\xff\xff\xff\xff\xff\xff\xff\xff\xff": api.ErrOver,
	} {
		for _, ahead := range []string{"", "\x01", "\x01\x00", "\x02\x00\x01y\x00"} {
			wantError(t, s, ahead+b, want)
			if want != api.ErrCut {
				wantError(t, s, ahead+b+"\x02\x80", want)
			}
		}
	}
}

func TestP902BytesThatEndEarly(t *testing.T) {
	m := seed
	check := func(s api.Schema, b string) {
		for i := range len(b) {
			wantError(t, s, b[:i], api.ErrCut)
		}
	}
	check(paper(), printed())
	for range 300 {
		s := m.schema()
		b := wire.Bytes(s, m.records(s))
		check(s, string(b[:min(len(b), 500)]))
	}
	for kind, b := range []string{api.Bool: "\x01", api.Int32: "\x01\x02\x03\x04", api.Int64: "\x01\x02\x03\x04\x05\x06\x07\x08", api.Bytes: "\x04name"} {
		if kind != api.Group {
			check(root(leaf("a", 0, kind)), "\x02"+b+b)
			check(root(leaf("a", 1, kind)), "\x02\x01"+b+"\x01"+b)
			check(root(leaf("a", 2, kind)), "\x02\x02"+b+b+"\x01"+b)
		}
	}
}

func TestP902BytesBehind(t *testing.T) {
	for _, more := range []string{"\x00", "\x01", "\xff", "\x00\x00", printed(), strings.Repeat("\x80", 1000)} {
		wantError(t, paper(), printed()+more, api.ErrMore)
		wantError(t, paper(), "\x00"+more, api.ErrMore)
	}
}

func TestP902FoundFirst(t *testing.T) {
	s := root(leaf("a", 1, api.Bool), leaf("b", 2, api.Int32), leaf("c", 0, api.Bytes))
	for b, want := range map[string]api.Errno{
		"\xc9\x01\x02\x33\x65":                          api.ErrMany,
		"\x01\x02\x33\x65":                              api.ErrBad,
		"\x01\x01\x02\x33\x65":                          api.ErrBad,
		"\x01\x00\x33\x65":                              api.ErrMany,
		"\x01\x00\x00\x65":                              api.ErrLong,
		"\x01\x01\x01\x80\x00\x65":                      api.ErrBad,
		"\x01\x00\x01\x00\x00\x00\x00\x65\x80\x00":      api.ErrLong,
		"\x01\x00\x01\x00\x00\x00":                      api.ErrCut,
		"\x01\x00\x00\x00\x02":                          api.ErrMore,
		"\x02\x00\x00\x00\x02\x33":                      api.ErrBad,
		"\x02\x00\x00\x00\x00\x33\x65":                  api.ErrMany,
		"\x03\x00\x00\x65\x00\x33\x65":                  api.ErrLong,
		"\xc8\x01\x00\x00\x65":                          api.ErrLong,
		"\xc8\x01\x00\x00":                              api.ErrCut,
		"\x01\x00\x33" + strings.Repeat("\x00", 500):    api.ErrMany,
		"\x01\x00\x00\x01y" + strings.Repeat("\xff", 9): api.ErrMore,
	} {
		wantError(t, s, b, want)
	}
}

// wantAsRead asks for what the words of Parse tell.
func wantAsRead(t *testing.T, s api.Schema, b []byte) api.Errno {
	t.Helper()
	want, wrong := read(s, b)
	got, e := wire.Parse(s, b)
	if e != wrong || shown(got...) != shown(want...) {
		t.Errorf("Parse(%v, %q): %v, %s, want %v, %s", s, b, e, shown(got...), wrong, shown(want...))
	}
	for _, r := range got {
		if e := tree.Fits(s, r); e != api.OK {
			t.Errorf("Parse(%v, %q): no record: %v, %s", s, b, e, shown(r))
		}
	}
	if e == api.OK && string(wire.Bytes(s, got)) != string(b) {
		t.Errorf("P903: Bytes of Parse(%v, %q): %q", s, b, wire.Bytes(s, got))
	}
	return e
}

func TestP902ByItsWords(t *testing.T) {
	m := seed
	seen := map[api.Errno]int{}
	for range 20000 {
		s := m.schema()
		b := wire.Bytes(s, m.records(s))
		for range m.below(3) {
			b = m.spoil(b)
		}
		seen[wantAsRead(t, s, b)]++
	}
	for _, e := range []api.Errno{api.OK, api.ErrCut, api.ErrMany, api.ErrBad, api.ErrLong, api.ErrMore} {
		if seen[e] < 50 {
			t.Errorf("%v was seen %d times", e, seen[e])
		}
	}
}

func TestP902AnyBytes(t *testing.T) {
	m := seed
	short := []api.Schema{root(leaf("a", 0, api.Bool)), root(leaf("a", 1, api.Bytes)), root(leaf("a", 2, api.Bool)), root(group("a", 2, leaf("b", 1, api.Bool)))}
	for _, s := range short {
		for a := range 256 {
			wantAsRead(t, s, []byte{byte(a)})
			for b := range 256 {
				wantAsRead(t, s, []byte{byte(a), byte(b)})
				wantAsRead(t, s, []byte{1, byte(a), byte(b)})
			}
		}
	}
	for range 20000 {
		b := make([]byte, m.below(40))
		for i := range b {
			b[i] = byte(pick(&m, 0, 1, 1, 2, 3, m.below(256)))
		}
		wantAsRead(t, pick(&m, append(short, paper(), m.schema())...), b)
	}
}

func TestP903RoundTrip(t *testing.T) {
	m := seed
	for range 4000 {
		s := m.schema()
		l := m.records(s)
		b := wire.Bytes(s, l)
		got, e := wire.Parse(s, b)
		if e != api.OK || shown(got...) != shown(l...) {
			t.Errorf("Parse of Bytes(%v, %s): %v, %s", s, shown(l...), e, shown(got...))
		}
		if again := wire.Bytes(s, got); string(again) != string(b) {
			t.Errorf("Bytes of Parse(%v, %q): %q", s, b, again)
		}
	}
}

func TestP903GreatRecords(t *testing.T) {
	// As many records as may be read, each with as many values as its lists may have.
	s := root(leaf("a", 2, api.Int64), group("b", 2, leaf("c", 2, api.Bytes), leaf("d", 0, api.Int32)))
	one := g(slices.Repeat(n(math.MinInt64), 50), slices.Repeat(some(g(slices.Repeat(x(strings.Repeat("\xff", 20)), 50), n(-7))), 50))
	l := slices.Repeat(some(one), 200)
	b := wire.Bytes(s, l)
	if want := 2 + 200*(1+50*8+1+50*(1+50*21+4)); len(b) != want {
		t.Errorf("%d bytes, want %d", len(b), want)
	}
	got, e := wire.Parse(s, b)
	if e != api.OK || len(got) != 200 {
		t.Fatal(e, len(got))
	}
	for i := range got {
		if !tree.Same(got[i], one) {
			t.Errorf("%d: another record", i)
		}
	}
	if !bytes.Equal(wire.Bytes(s, got), b) {
		t.Error("other bytes")
	}
}

// loop is a tree that is in itself, so many times, in so many lists.
func loop(lists, times int) api.Tree {
	t := g(make([][]api.Tree, lists)...)
	for i := range t.Kids {
		t.Kids[i] = slices.Repeat(some(t), times)
	}
	return t
}

func TestP1NoRecords(t *testing.T) {
	for _, s := range []api.Schema{paper(), root(leaf("a", 2, api.Bool)), root(group("b", 2, leaf("a", 2, api.Bytes)))} {
		for _, r := range []api.Tree{{}, {N: 1}, {S: "x"}, g(), g(nil), g(nil, nil, nil, nil), g(n(1, 2), nil, nil, nil), g(n(1), nil, nil, n(2)), g(n(1), n(1), n(1), n(1)), g(x(strings.Repeat("y", 1<<16))), g(slices.Repeat(n(1), 1000)), g(make([][]api.Tree, 1000)...), loop(1, 1), loop(4, 1), loop(1, 51), loop(100, 100)} {
			wire.Bytes(s, some(r))
			wire.Bytes(s, append(prints(), r))
		}
	}
	// What is none is not written as another one.
	for _, r := range []api.Tree{{}, g(nil), g(nil, nil, nil, nil), g(n(1), nil, nil, n(2)), g(n(1, 2), nil, nil, nil), g(n(1), nil, nil, nil, nil)} {
		wantBytes(t, paper(), append(prints(), r), "")
	}
}

func TestP1NoSchemas(t *testing.T) {
	m := seed
	strange := []int{math.MinInt, -1 << 62, -2, -1, 0, 0, 0, 0, 1, 1, 1, 2, 2, 3, 4, 5, 40, 1 << 62, math.MaxInt}
	for range 5000 {
		s := make(api.Schema, m.below(60))
		for i := range s {
			s[i] = api.Field{Name: fmt.Sprint("a", i), Rep: pick(&m, strange...), Kind: pick(&m, strange...), Kids: pick(&m, strange...)}
		}
		for _, l := range [][]api.Tree{nil, prints(), some(loop(1, 1)), some(g(nil), g()), m.records(m.schema())} {
			wire.Bytes(s, l)
		}
		for _, b := range []string{"", "\x00", "\x01\x01\x01\x01\x01\x01", printed()} {
			wire.Parse(s, []byte(b))
		}
	}
	inside := make(api.Schema, 200000)
	for i := range inside {
		inside[i] = api.Field{Name: "a", Kids: 1}
	}
	for _, s := range []api.Schema{nil, {}, group("m", 0), leaf("a", 0, 1), paper()[:5], paper()[1:], {{Name: "m", Kids: 99}}, append(paper(), paper()...), inside} {
		wire.Bytes(s, nil)
		wantBytes(t, s, some(g(nil)), "")
		wantError(t, s, "\x00", schema.Check(s))
		wantError(t, s, printed(), schema.Check(s))
	}
}

func TestP1ManyValuesSaid(t *testing.T) {
	// Bytes that say of many lists that they are long, and end.
	s := leaf("a", 2, api.Bool)
	for range 7 {
		s = group("g", 2, leaf("z", 2, api.Int64), s)
	}
	said := "\xc8\x01" + strings.Repeat("\x32\x00", 7) + "\x32"
	for i := range len(said) + 1 {
		wantError(t, root(s), said[:i], api.ErrCut)
	}
	wantError(t, root(s), said+"\x02", api.ErrBad)
	wantError(t, root(s), said+strings.Repeat("\x01", 49), api.ErrCut)
}

func TestP2ArgumentsAreLeft(t *testing.T) {
	room := append(paper(), paper()...)
	l := prints()
	for i := range l {
		l[i].Kids = append(l[i].Kids, n(7))[:4]
		l[i].Kids[0] = append(l[i].Kids[0], n(8)...)[:1]
	}
	was := shown(l...)
	l = append(l, g(n(9)))[:3]
	b := append([]byte(printed()), "and what lies behind"...)
	before := slices.Clone(b)
	wantBytes(t, room[:len(paper())], l, printed())
	wire.Bytes(room, l)
	wire.Bytes(room[:3], l)
	wire.Parse(room[:len(paper())], b[:len(printed())])
	wire.Parse(room[:len(paper())], b)
	wire.Parse(room[:len(paper())], b[:20])
	if !slices.Equal(room, append(paper(), paper()...)) {
		t.Errorf("the schema was changed: %v", room)
	}
	if !slices.Equal(b, before) {
		t.Errorf("the bytes were changed: %q", b)
	}
	if shown(l...) != was || l[:4][3].Kids[0][0].N != 9 {
		t.Errorf("the records were changed: %s", shown(l[:4]...))
	}
	for _, r := range l {
		if r.Kids[:5][4][0].N != 7 || r.Kids[0][:2][1].N != 8 {
			t.Errorf("what lies behind was changed: %s", shown(r))
		}
	}
}

// places tells of each place of the lists of trees, their room included, how often it is there.
func places(lists map[*[]api.Tree]int, values map[*api.Tree]int, l []api.Tree) {
	l = l[:cap(l)]
	for i := range l {
		values[&l[i]]++
		kids := l[i].Kids[:cap(l[i].Kids)]
		for k := range kids {
			lists[&kids[k]]++
			places(lists, values, kids[k])
		}
	}
}

func TestP2ResultsAreNew(t *testing.T) {
	parse := func() []api.Tree {
		l, e := wire.Parse(paper(), []byte(printed()))
		if e != api.OK || shown(l...) != shown(prints()...) {
			t.Errorf("Parse: %v, %s", e, shown(l...))
		}
		return l
	}
	lists, values := map[*[]api.Tree]int{}, map[*api.Tree]int{}
	for range 2 {
		places(lists, values, parse())
	}
	for _, n := range lists {
		if n > 1 {
			t.Errorf("a list is there %d times", n)
		}
	}
	for _, n := range values {
		if n > 1 {
			t.Errorf("a value is there %d times", n)
		}
	}
	l := prints()
	b := wire.Bytes(paper(), l)
	b = b[:cap(b)]
	for i := range b {
		b[i] = 99
	}
	if shown(l...) != shown(prints()...) {
		t.Errorf("the bytes share memory with the records: %s", shown(l...))
	}
	wantBytes(t, paper(), l, printed())
}

func TestP2NothingIsKept(t *testing.T) {
	b := []byte(printed())
	l, _ := wire.Parse(paper(), b)
	for i := range b {
		b[i] = 'x'
	}
	if shown(l...) != shown(prints()...) {
		t.Errorf("what was parsed hangs on the bytes: %s", shown(l...))
	}
	s := paper()
	l = some(prints()[0])
	first := wire.Bytes(s, l)
	l[0].Kids[0][0].N, s[10].Rep = 3, api.Required
	if got := wire.Bytes(s, l); got[1] != 3 || len(got) != len(first)-1 {
		t.Errorf("Bytes: %q, at first %q", got, first)
	}
}

func TestP3TheSameCalls(t *testing.T) {
	for range 3 {
		wantBoth(t, paper(), prints(), printed())
		wantError(t, paper(), printed()[:40], api.ErrCut)
		wantError(t, paper(), printed()+"x", api.ErrMore)
		wantError(t, nil, printed(), api.ErrMany)
		wantBytes(t, paper(), some(g(nil)), "")
		wantBytes(t, paper(), nil, "\x00")
	}
}

func TestP4NothingBesideAnError(t *testing.T) {
	s := root(leaf("a", 0, api.Bool))
	for _, b := range []string{"\x02\x01", "\x02\x01\x02", "\x02\x01\x00\x00", "\xc9\x01\x00", "\x80\x00"} {
		if l, e := wire.Parse(s, []byte(b)); e == api.OK || len(l) != 0 {
			t.Errorf("Parse(%q): %v, %s", b, e, shown(l...))
		}
	}
}
