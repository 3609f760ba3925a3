package text_test

import (
	"fmt"
	"math"
	"regexp"
	"slices"
	"strings"
	"testing"
	"unsafe"

	"shredder/api"
	"shredder/schema"
	"shredder/text"
)

// leaf, group tell fields as they lie in a schema: a group's own ones behind it.
func leaf(name string, rep, kind int) api.Schema {
	return api.Schema{{Name: name, Rep: rep, Kind: kind}}
}

func group(name string, rep int, inside ...api.Schema) api.Schema {
	s := api.Schema{{Name: name, Rep: rep, Kind: api.Group, Kids: len(inside)}}
	for _, x := range inside {
		s = append(s, x...)
	}
	return s
}

// paper has groups side by side and in one another, of every Rep, and leaves of every kind.
func paper() api.Schema {
	return group("doc", api.Required,
		leaf("id", api.Required, api.Int64),
		group("links", api.Optional,
			leaf("back", api.Repeated, api.Int64),
			leaf("fore", api.Repeated, api.Int32)),
		group("name", api.Repeated,
			group("lang", api.Required,
				leaf("code", api.Required, api.Bytes),
				group("more", api.Repeated,
					leaf("land", api.Optional, api.Bytes)))),
		leaf("old", api.Optional, api.Bool))
}

const paperText = `message doc {
  required int64 id;
  optional group links {
    repeated int64 back;
    repeated int32 fore;
  }
  repeated group name {
    required group lang {
      required bytes code;
      repeated group more {
        optional bytes land;
      }
    }
  }
  optional bool old;
}
`

// plainest is the least there may be.
const plainest = "message m { required bool a; }"

// many is the text of n leaves, whose names differ, in a message: the text has n + 1 fields.
func many(n int) string { return "message m {" + leaves(n) + "}" }

func leaves(n int) (s string) {
	for k := range n {
		s += fmt.Sprint(" required bool a", k, ";")
	}
	return s
}

// deep is the text of a leaf in n groups within the message: the leaf's depth is n + 1.
func deep(n int) string {
	return "message m {" + strings.Repeat("repeated group g {", n) + "required bool a;" + strings.Repeat("}", n+1)
}

// wide are words that fit up to that of a field in so many groups within the message, behind so many other fields.
func wide(fields, groups int) string {
	return "message m {" + leaves(fields) + strings.Repeat("repeated group g {", groups)
}

func wantParse(t *testing.T, s string, want api.Errno) {
	t.Helper()
	got, e := text.Parse(s)
	if e != want || e != api.OK && got != nil {
		t.Errorf("Parse(%.300q): %v, %v, want %v", s, got, e, want)
	}
}

// within tells whether the bytes of part are some of those of s.
func within(s, part string) bool {
	begin, at := uintptr(unsafe.Pointer(unsafe.StringData(s))), uintptr(unsafe.Pointer(unsafe.StringData(part)))
	return begin <= at && at < begin+uintptr(len(s))
}

func wantSchema(t *testing.T, s string, want api.Schema) {
	t.Helper()
	got, e := text.Parse(s)
	if e != api.OK || !slices.Equal(got, want) {
		t.Errorf("Parse(%.300q): %v, %v, want %v", s, got, e, want)
	}
}

// mix tells numbers in whose bits there is no order to be seen.
type mix uint64

const seed = mix(88172645463325252)

func (m *mix) below(n int) int {
	*m ^= *m << 13
	*m ^= *m >> 7
	*m ^= *m << 17
	return int(*m >> 1 % mix(n))
}

// name is one that a field may have; now and then it is a word of the form.
func (m *mix) name() string {
	const start, other = "abcdefghijklmnopqrstuvwxyz", "abcdefghijklmnopqrstuvwxyz0123456789_"
	if words := strings.Fields("message required optional repeated group bool int32 int64 bytes"); m.below(4) == 0 {
		return words[m.below(len(words))]
	}
	b := []byte{start[m.below(len(start))]}
	for range m.below(12) {
		b = append(b, other[m.below(len(other))])
	}
	return string(b)
}

// fields makes a group of at least one field: at most room in all, no deeper than depth says, and no name twice.
func (m *mix) fields(depth, room int) (list []api.Schema) {
	names := map[string]bool{}
	for room > 0 && (len(list) == 0 || m.below(4) > 0) {
		name := m.name()
		if names[name] {
			continue
		}
		names[name] = true
		x := leaf(name, m.below(3), 1+m.below(4))
		if depth > 1 && room > 1 && m.below(2) == 0 {
			x = group(name, m.below(3), m.fields(depth-1, room-1)...)
		}
		list, room = append(list, x), room-len(x)
	}
	return list
}

func (m *mix) schema() api.Schema {
	return group(m.name(), api.Required, m.fields(api.MaxDepth, api.MaxFields-1)...)
}

var (
	anyText = regexp.MustCompile(`^[a-z0-9_{}; \t\n]*$`)
	anyWord = regexp.MustCompile(`[a-z0-9_]+|[{};]`)
	anyName = regexp.MustCompile(`^[a-z][a-z0-9_]{0,11}$`)
)

// between lays words behind one another, with as much between them as there may be, but no less than two words need.
func (m *mix) between(words []string) string {
	s := ""
	for i, w := range words {
		need := i > 0 && !strings.Contains("{};", words[i-1]) && !strings.Contains("{};", w)
		for need || m.below(3) == 0 {
			s, need = s+" \t\n"[m.below(3):][:1], false
		}
		s += w
	}
	return s
}

// printed is Print by its words, field by field and group by group.
func printed(s api.Schema) string {
	var one func(at, depth int) (string, int)
	one = func(at, depth int) (string, int) {
		f, indent := s[at], strings.Repeat("  ", depth)
		what := []string{"required", "optional", "repeated"}[f.Rep] + " " + []string{"group", "bool", "int32", "int64", "bytes"}[f.Kind]
		if at == 0 {
			what = "message"
		}
		if f.Kind != api.Group {
			return indent + what + " " + f.Name + ";\n", at + 1
		}
		out, inner := indent+what+" "+f.Name+" {\n", ""
		at++
		for range f.Kids {
			inner, at = one(at, depth+1)
			out += inner
		}
		return out + indent + "}\n", at
	}
	out, _ := one(0, 0)
	return out
}

// grammar is the form as rules that call one another; the first error leaves them all.
type grammar struct {
	words []string
	s     api.Schema
}

func (g *grammar) take(fits func(w string) bool) string {
	if len(g.words) == 0 || !fits(g.words[0]) {
		panic(api.ErrWord)
	}
	w := g.words[0]
	g.words = g.words[1:]
	return w
}

func one(words ...string) func(w string) bool {
	return func(w string) bool { return slices.Contains(words, w) }
}

func (g *grammar) field(depth, rep, kind int) {
	at := len(g.s)
	f := api.Field{Name: g.take(anyName.MatchString), Rep: rep, Kind: kind}
	if at == 40 {
		panic(api.ErrMany)
	}
	if depth > 8 {
		panic(api.ErrDeep)
	}
	g.s = append(g.s, f)
	if kind != api.Group {
		g.take(one(";"))
		return
	}
	reps, kinds := []string{"required", "optional", "repeated"}, []string{"group", "bool", "int32", "int64", "bytes"}
	g.take(one("{"))
	for w := g.take(one(reps...)); w != "}"; w = g.take(one(append(reps, "}")...)) {
		g.s[at].Kids++
		g.field(depth+1, slices.Index(reps, w), slices.Index(kinds, g.take(one(kinds...))))
	}
}

// parsed is Parse by its words.
func parsed(s string) (got api.Schema, e api.Errno) {
	if len(s) > 4000 {
		return nil, api.ErrLong
	}
	if !anyText.MatchString(s) {
		return nil, api.ErrWord
	}
	defer func() {
		if r := recover(); r != nil {
			got, e = nil, r.(api.Errno)
		}
	}()
	g := grammar{words: anyWord.FindAllString(s, -1)}
	g.take(one("message"))
	g.field(0, api.Required, api.Group)
	if len(g.words) > 0 {
		return nil, api.ErrWord
	}
	if e := schema.Check(g.s); e != api.OK {
		return nil, e
	}
	return g.s, api.OK
}

func wantLikeParsed(t *testing.T, s string) api.Errno {
	t.Helper()
	want, e := parsed(s)
	if e == api.OK {
		wantSchema(t, s, want)
	} else {
		wantParse(t, s, e)
	}
	return e
}

func TestP601Example(t *testing.T) {
	wantSchema(t, plainest, group("m", 0, leaf("a", 0, api.Bool)))
}

func TestP601Fields(t *testing.T) {
	wantSchema(t, paperText, paper())
	for rep, r := range []string{"required", "optional", "repeated"} {
		for kind, k := range []string{"bool", "int32", "int64", "bytes"} {
			wantSchema(t, "message m { "+r+" "+k+" x; }", group("m", 0, leaf("x", rep, kind+1)))
		}
		wantSchema(t, "message m { "+r+" group x { optional int64 y; } }", group("m", 0, group("x", rep, leaf("y", 1, api.Int64))))
	}
	wantSchema(t, "message m{required group a{required bool x;}optional group b{required bool x;required bool y;}repeated int32 x;}",
		group("m", 0, group("a", 0, leaf("x", 0, 1)), group("b", 1, leaf("x", 0, 1), leaf("y", 0, 1)), leaf("x", 2, 2)))
}

func TestP601Between(t *testing.T) {
	words := anyWord.FindAllString(paperText, -1)
	for _, between := range []string{" ", "\t", "\n", " \t\n", "\n\n  ", "\t\t\t"} {
		s := strings.Join(words, between)
		wantSchema(t, s, paper())
		wantSchema(t, between+s, paper())
		wantSchema(t, s+between, paper())
	}
	m := seed
	for range 300 {
		wantSchema(t, m.between(words), paper())
	}
	wantSchema(t, "message m{required bool a;}", group("m", 0, leaf("a", 0, api.Bool)))
	// Letters, digits and _ in a row are one word, and nothing else is.
	for _, s := range []string{
		"messagem { required bool a; }", "message m { requiredbool a; }", "message m { required boola; }", "message m { required bool a b; }",
		"message m { required bool a _; }", "mess age m { required bool a; }", "message m { required int 32 a; }", "message m { required int32a; }",
		"message m { required bool_a; }", "message m m { required bool a; }", "message m { required bool a;; }", "message m {{ required bool a; }}",
	} {
		wantParse(t, s, api.ErrWord)
	}
}

func TestP601Names(t *testing.T) {
	for _, n := range []string{"a", "z", "a0", "z_", "a__9", "abcdefghijkl", "a12345678901", "z___________", "message", "required", "optional", "repeated", "group", "bool", "int32", "int64", "bytes"} {
		wantSchema(t, "message "+n+" { optional group "+n+" { repeated bytes "+n+"; } }", group(n, 0, group(n, 1, leaf(n, 2, api.Bytes))))
	}
	for _, n := range []string{"", "0", "9a", "_", "_a", "0a", "abcdefghijklm", "a123456789012", "z____________", strings.Repeat("a", 100), "{", "}", ";", "a b", "a{", "A", "aB", "a-b", "a.b", "\u00e9", "a\u00e9"} {
		wantParse(t, "message "+n+" { required bool a; }", api.ErrWord)
		wantParse(t, "message m { required bool "+n+"; }", api.ErrWord)
		wantParse(t, "message m { required group "+n+" { required bool a; } }", api.ErrWord)
	}
}

func TestP601LongTexts(t *testing.T) {
	room := 4000 - len(paperText)
	for _, fill := range []string{" ", "\t", "\n"} {
		wantSchema(t, paperText+strings.Repeat(fill, room), paper())
		wantSchema(t, strings.Repeat(fill, room)+paperText, paper())
		wantParse(t, paperText+strings.Repeat(fill, room+1), api.ErrLong)
		wantParse(t, strings.Repeat(fill, room+1)+paperText, api.ErrLong)
		wantParse(t, strings.Repeat(fill, 4000), api.ErrWord)
		wantParse(t, strings.Repeat(fill, 4001), api.ErrLong)
	}
	// Whatever else is wrong comes behind it.
	for _, s := range []string{"!", "\xff", "{", "message", many(40), deep(9), "message m { required bool a; required bool a; }"} {
		wantParse(t, s+strings.Repeat(" ", 4001-len(s)), api.ErrLong)
	}
	wantParse(t, strings.Repeat("!", 4001), api.ErrLong)
	wantParse(t, strings.Repeat("\u00e9", 2001), api.ErrLong) // its bytes are counted
	wantParse(t, strings.Repeat("\u00e9", 2000), api.ErrWord)
	wantParse(t, strings.Repeat("a", 1<<20), api.ErrLong)
}

func TestP601OtherCharacters(t *testing.T) {
	for c := range rune(0x300) {
		allowed := anyText.MatchString(string(c))
		for _, s := range []string{plainest + string(c), string(c) + plainest, strings.Replace(plainest, "m {", "m"+string(c)+"{", 1)} {
			if !allowed {
				wantParse(t, s, api.ErrWord)
			}
			wantLikeParsed(t, s)
		}
	}
	for b := 0x80; b < 0x100; b++ {
		wantParse(t, plainest+string([]byte{byte(b)}), api.ErrWord)
	}
	// These are ahead of all errors of words, wherever they are.
	for _, c := range []string{"!", "\x00", "\r", "\v", "\f", "-", ".", ",", "/", "\"", "[", "|", "`", "\x7f", "A", "Z", "\u00a0", "\u00e9", "\u2028", "\u3000", "\uff41", "\ufeff", "\ufffd", "\U0001f600", "\xff", "\x80", "\xc3", "\xe2\x82", "\xed\xa0\x80"} {
		for _, s := range []string{plainest, many(40), deep(8), "", "x", "message m { required bool a; required bool a; }"} {
			wantParse(t, s+c, api.ErrWord)
			wantParse(t, c+s, api.ErrWord)
		}
	}
}

func TestP601WordsThatDoNotFit(t *testing.T) {
	words := anyWord.FindAllString("message m { required group g { optional bool a; } repeated bytes b; }", -1)
	others := strings.Fields("message required optional repeated group bool int32 int64 bytes { } ; x 1 _ abcdefghijklm float bool1 requiredx int16 messages")
	good := 0
	for i := range words {
		for _, w := range others {
			x := slices.Clone(words)
			x[i] = w
			if wantLikeParsed(t, strings.Join(x, " ")) == api.OK {
				good++
			}
			wantLikeParsed(t, strings.Join(slices.Insert(slices.Clone(words), i, w), " "))
		}
		wantParse(t, strings.Join(slices.Delete(slices.Clone(words), i, i+1), " "), api.ErrWord)
		wantParse(t, strings.Join(words[:i], " "), api.ErrWord)
		wantParse(t, strings.Join(words[i+1:], " "), api.ErrWord)
	}
	if good == 0 {
		t.Error("no other word fits anywhere")
	}
	for _, s := range []string{"", " ", "m", "{", "message m", "message m ;", "message m { }", "message m {}", "message { required bool a; }", "m { required bool a; }", "group m { required bool a; }",
		"required group m { required bool a; }", "message m { required group g { } }", "message m { required bool a; required group g { } }", "message m { required group g; }", "message m { required bool a { } }",
		"message m { required bool a }", "message m { required a; }", "message m { bool a; }", "message m { required message a { required bool b; } }", "message m { required required bool a; }", "message m { ; }", "message m { required bool a; ; }"} {
		wantParse(t, s, api.ErrWord)
	}
}

func TestP601WordsThatEndEarly(t *testing.T) {
	for i := range strings.TrimSpace(paperText) {
		wantParse(t, paperText[:i], api.ErrWord)
	}
	wantSchema(t, strings.TrimSpace(paperText), paper())
}

func TestP601NothingBehind(t *testing.T) {
	for _, more := range []string{"x", "}", ";", "{", "message", "1", "required bool b;", plainest, "_", "\n\n}"} {
		wantParse(t, plainest+more, api.ErrWord)
		wantParse(t, plainest+" "+more+" ", api.ErrWord)
		wantParse(t, "message m { required bool a; required bool a; }"+more, api.ErrWord)
	}
}

func TestP601ManyFields(t *testing.T) {
	if s, e := text.Parse(many(39)); e != api.OK || len(s) != 40 {
		t.Errorf("%d fields, %v", len(s), e)
	}
	wantParse(t, many(40), api.ErrMany)
	wantParse(t, many(100), api.ErrMany)
	// It is told when the name is there, whatever follows, and not ahead of it.
	for _, end := range []string{"", ";", "; }", "{", "}", " x", " 1", "; required bool a0; }", "; }}}", "; bool", "; required group 1"} {
		wantParse(t, wide(39, 0)+"required bool x"+end, api.ErrMany)
		wantParse(t, wide(39, 0)+"optional group x"+end, api.ErrMany)
		wantParse(t, wide(37, 1)+"repeated bool y; required bool x"+end, api.ErrMany)
	}
	for _, end := range []string{"", "required", "required bool", "required bool 1", "required bool ;", "required bool abcdefghijklm", "bool a", "x", "{", ";", "required message x", "required group {", "}}", "} x"} {
		wantParse(t, wide(39, 0)+end, api.ErrWord)
	}
	wantParse(t, strings.Replace(many(40), "bool a39;", "bool a39", 1), api.ErrMany)
	wantParse(t, strings.Replace(many(40), "bool a38;", "bool a38", 1), api.ErrWord)
	wantParse(t, strings.Replace(many(40), "message", "messages", 1), api.ErrWord)
	// A name that is there already is told only at the end.
	wantParse(t, wide(38, 0)+"required bool a0; }", api.ErrName)
	wantParse(t, wide(39, 0)+"required bool a0; }", api.ErrMany)
	wantParse(t, wide(38, 0)+"required bool a0; required bool x", api.ErrMany)
}

func TestP601DeepFields(t *testing.T) {
	if s, e := text.Parse(deep(7)); e != api.OK || len(s) != 9 {
		t.Errorf("%d fields, %v", len(s), e)
	}
	wantParse(t, deep(8), api.ErrDeep)
	wantParse(t, deep(9), api.ErrDeep)
	wantParse(t, deep(100), api.ErrDeep)
	for _, end := range []string{"", ";", "; }", "{", "}", " x", " 1", "; required bool x; }", ";}}}}}}}}}}", "; bool", "{ required"} {
		wantParse(t, wide(0, 8)+"required bool x"+end, api.ErrDeep)
		wantParse(t, wide(0, 8)+"required group x"+end, api.ErrDeep)
		wantParse(t, wide(3, 8)+"optional bytes x"+end, api.ErrDeep)
	}
	for _, end := range []string{"", "required", "required bool", "required bool 1", "required group {", "required bool abcdefghijklm", "bool x", "}", "required message x"} {
		wantParse(t, wide(0, 8)+end, api.ErrWord)
	}
	wantParse(t, wide(0, 7)+"required group x", api.ErrWord)
	wantParse(t, wide(0, 7)+"required group x {}", api.ErrWord)
	// What ended is not around a field any more.
	end := strings.Repeat("}", 6)
	wantParse(t, wide(0, 7)+"required bool x; } required bool y;"+end+"}", api.OK)
	wantParse(t, wide(0, 7)+"required bool x; } required group y { required bool x; }"+end+"}", api.OK)
	wantParse(t, wide(0, 7)+"required bool x; } required group y { required group x { required bool x; } }"+end+"}", api.ErrDeep)
	// A name that is there already is told only at the end.
	wantParse(t, "message m { required bool a; required bool a; "+deep(8)[len("message m {"):], api.ErrDeep)
	wantParse(t, "message m { required bool a; required bool a; "+deep(7)[len("message m {"):], api.ErrName)
}

func TestP601ManyAndDeep(t *testing.T) {
	wantParse(t, wide(31, 8)+"required bool x", api.ErrMany) // the 41st field is also the first one that is too deep
	wantParse(t, wide(30, 8)+"required bool x", api.ErrDeep)
	wantParse(t, wide(32, 8)+"required bool x", api.ErrMany)
	wantParse(t, wide(31, 8)+"required bool 1", api.ErrWord)
}

func TestP601NamesTwice(t *testing.T) {
	for s, want := range map[string]api.Errno{
		"message m { required bool a; optional bytes a; }":                                          api.ErrName,
		"message m { required bool a; optional group a { required bool b; } }":                      api.ErrName,
		"message m { optional group a { required bool b; } required bool a; }":                      api.ErrName,
		"message m { optional group a { required bool b; required bool c; required bool b; } }":     api.ErrName,
		"message m { optional group a { required bool m; required bool a; } required bool m; }":     api.OK,
		"message m { optional group a { required bool x; } repeated group b { required bool x; } }": api.OK,
	} {
		wantParse(t, s, want)
		wantParse(t, s[:len(s)-1], api.ErrWord)
		wantParse(t, s+"}", api.ErrWord)
	}
}

func TestP601AnyChange(t *testing.T) {
	m := seed
	const some = "aemqz019_{}; \t\nA!\xff"
	found := map[api.Errno]int{}
	for range 4000 {
		b := []byte(m.between(anyWord.FindAllString(printed(m.schema()), -1)))
		for range m.below(3) {
			i := m.below(len(b))
			switch c := some[m.below(len(some))]; m.below(3) {
			case 0:
				b[i] = c
			case 1:
				b = slices.Insert(b, i, c)
			case 2:
				b = slices.Delete(b, i, i+1)
			}
		}
		found[wantLikeParsed(t, string(b))]++
	}
	if found[api.OK] == 0 || found[api.ErrWord] == 0 {
		t.Errorf("too few kinds of answers: %v", found)
	}
}

func TestP601AnyWords(t *testing.T) {
	// Words that mostly fit, without an end where the form could have one: many fields, or deep ones, are told.
	m := seed
	found := map[api.Errno]int{}
	for range 4000 {
		words, open, ends := []string{"message", "m", "{"}, 1, 2+m.below(20)
		for range m.below(60) {
			words = append(words, []string{"required", "optional", "repeated"}[m.below(3)])
			if m.below(3) == 0 {
				words = append(words, "group", fmt.Sprint("g", m.below(1000)), "{")
				open++
				continue
			}
			words = append(words, "int32", fmt.Sprint("x", m.below(1000)), ";")
			for open > 1 && m.below(ends) == 0 {
				words = append(words, "}")
				open--
			}
		}
		for range open {
			words = append(words, "}")
		}
		found[wantLikeParsed(t, m.between(words))]++
	}
	for _, e := range []api.Errno{api.OK, api.ErrWord, api.ErrMany, api.ErrDeep, api.ErrName} {
		if found[e] == 0 {
			t.Errorf("no text that leads to %v: %v", e, found)
		}
	}
}

func TestP602Print(t *testing.T) {
	if got := text.Print(paper()); got != paperText {
		t.Errorf("Print: %s", got)
	}
	for _, x := range []struct {
		s    api.Schema
		want string
	}{
		{group("m", 0, leaf("a", 0, api.Bool)), "message m {\n  required bool a;\n}\n"},
		{group("m", 0, leaf("a", 1, api.Int32), leaf("b", 2, api.Int64), leaf("c", 0, api.Bytes)), "message m {\n  optional int32 a;\n  repeated int64 b;\n  required bytes c;\n}\n"},
		{group("group", 0, group("message", 0, leaf("bool", 1, api.Bool)), group("g", 1, leaf("a", 2, api.Int32))),
			"message group {\n  required group message {\n    optional bool bool;\n  }\n  optional group g {\n    repeated int32 a;\n  }\n}\n"},
		{group("m", 0, group("g", 2, group("g", 2, group("g", 2, leaf("a", 0, api.Bytes))))),
			"message m {\n  repeated group g {\n    repeated group g {\n      repeated group g {\n        required bytes a;\n      }\n    }\n  }\n}\n"},
	} {
		if got := text.Print(x.s); got != x.want {
			t.Errorf("Print(%v): %q, want %q", x.s, got, x.want)
		}
	}
}

func TestP602AnySchema(t *testing.T) {
	m := seed
	for range 3000 {
		s := m.schema()
		if got, want := text.Print(s), printed(s); got != want {
			t.Fatalf("Print(%v): %q, want %q", s, got, want)
		}
	}
}

func TestP603RoundTrip(t *testing.T) {
	m := seed
	list := []api.Schema{paper()}
	for _, s := range []string{plainest, many(39), deep(7), strings.ReplaceAll(deep(7), " g ", " abcdefghijkl ")} {
		x, _ := text.Parse(s)
		list = append(list, x)
	}
	for range 3000 {
		list = append(list, m.schema())
	}
	for _, s := range list {
		if schema.Check(s) != api.OK {
			t.Fatalf("no schema: %v", s)
		}
		wantSchema(t, text.Print(s), s)
		wantSchema(t, m.between(anyWord.FindAllString(text.Print(s), -1)), s)
	}
}

func TestP603LongestText(t *testing.T) {
	// As long as a schema's text gets: names of 12 characters, groups as deep as may be, the longest words.
	name := func(k int) string { return fmt.Sprintf("abcdefghij%02d", k) }
	var list []api.Schema
	for k := range 19 {
		list = append(list, group(name(k), api.Repeated, leaf(name(k), api.Required, api.Int32)))
	}
	s := list[0]
	for range 6 {
		s = group("abcdefghijkl", api.Repeated, s)
	}
	for _, x := range []api.Schema{group("abcdefghijkl", 0, list...), group("abcdefghijkl", 0, s)} {
		wantSchema(t, text.Print(x), x)
	}
	inner := group("abcdefghijkl", api.Repeated, list[:16]...)
	for range 5 {
		inner = group("abcdefghijkl", api.Repeated, inner)
	}
	wantSchema(t, text.Print(group("abcdefghijkl", 0, inner)), group("abcdefghijkl", 0, inner))
}

func TestP1AnyFields(t *testing.T) {
	m := seed
	numbers := []int{math.MinInt, -1 << 62, -2, -1, 0, 0, 0, 0, 1, 1, 1, 2, 2, 3, 4, 5, 40, 1 << 62, math.MaxInt}
	pick := func() int { return numbers[m.below(len(numbers))] }
	for range 3000 {
		s := make(api.Schema, m.below(60))
		for i := range s {
			s[i] = api.Field{Name: m.name(), Rep: pick(), Kind: pick(), Kids: pick()}
		}
		text.Print(s)
	}
	for _, s := range []api.Schema{nil, {}, group("m", 0), group("M", 0, leaf("!", 0, 1)), leaf("a", 0, 1), leaf("a", 7, 9), paper()[:5], paper()[1:], {{Name: "m", Kids: 99}}, append(paper(), paper()...)} {
		text.Print(s)
	}
	// One in the other, without end: the lines would be as long as there are fields.
	inside := make(api.Schema, 200000)
	for i := range inside {
		inside[i] = api.Field{Name: "a", Kids: 1}
	}
	text.Print(inside)
}

func TestP1AnyText(t *testing.T) {
	m := seed
	for range 20000 {
		b := make([]byte, m.below(80))
		for i := range b {
			b[i] = byte(m.below(256) >> m.below(2))
		}
		wantLikeParsed(t, string(b))
	}
	for _, s := range []string{strings.Repeat("{", 4000), strings.Repeat("}", 4000), strings.Repeat(";", 4000), strings.Repeat("_", 4000), strings.Repeat("message ", 500), "message m {" + strings.Repeat("}", 3000), strings.Repeat("message m {", 300)} {
		wantParse(t, s, api.ErrWord)
	}
}

func TestP2ArgumentsAreLeft(t *testing.T) {
	room := append(paper(), paper()...)
	was := slices.Clone(room)
	n := len(paper())
	text.Print(room[:n])
	text.Print(room[:n-2])
	text.Print(room)
	if !slices.Equal(room, was) {
		t.Errorf("the fields were changed: %v", room)
	}
}

func TestP2ResultsAreNew(t *testing.T) {
	s, _ := text.Parse(paperText)
	s = s[:cap(s)]
	for i := range s {
		s[i] = api.Field{Name: "x", Kind: 9}
	}
	wantSchema(t, paperText, paper())
	p := paper()
	out := text.Print(p)
	p[1].Name = "other"
	if out != paperText || text.Print(p) == paperText {
		t.Error("what was printed hangs on the schema")
	}
}

func TestP2NothingIsKept(t *testing.T) {
	// The names of a schema are no parts of its text, which they would keep.
	s := strings.Clone(paperText)
	x, _ := text.Parse(s)
	for _, f := range x {
		if within(s, f.Name) {
			t.Errorf("the name %q lies in the text", f.Name)
		}
	}
}

func TestP3TheSameCalls(t *testing.T) {
	for range 3 {
		wantSchema(t, paperText, paper())
		wantParse(t, "message", api.ErrWord)
		wantParse(t, many(40), api.ErrMany)
		if got := text.Print(paper()); got != paperText {
			t.Errorf("Print: %s", got)
		}
		text.Print(nil)
	}
}

func TestP4NothingBesideErrors(t *testing.T) {
	for s, want := range map[string]api.Errno{
		strings.Repeat(" ", 4001): api.ErrLong,
		plainest + "!":            api.ErrWord,
		plainest + "x":            api.ErrWord,
		many(40):                  api.ErrMany,
		deep(8):                   api.ErrDeep,
		"message m { required bool a; required bool a; }": api.ErrName,
	} {
		wantParse(t, s, want)
	}
}
