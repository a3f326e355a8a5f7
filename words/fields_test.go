package words_test

import (
	"math/rand"
	"slices"
	"strings"
	"testing"
	"unsafe"

	"dragnet/api"
	"dragnet/words"
)

func bare(s string) api.Field   { return api.Field{S: s} }
func quoted(s string) api.Field { return api.Field{S: s, Quoted: true} }

// lines are lines and their fields.
var lines = []struct {
	line   string
	fields []api.Field
}{
	{``, nil},
	{`a`, []api.Field{bare("a")}},
	{`""`, []api.Field{quoted("")}},
	{`get / "a b"`, []api.Field{bare("get"), bare("/"), quoted("a b")}},
	{`"a b" get`, []api.Field{quoted("a b"), bare("get")}},
	{`a "" b`, []api.Field{bare("a"), quoted(""), bare("b")}},
	{`"a" "b"`, []api.Field{quoted("a"), quoted("b")}},
	{`a a`, []api.Field{bare("a"), bare("a")}},
	{`"\"" "\\" "\x00\n"`, []api.Field{quoted("\""), quoted("\\"), quoted("\x00\n")}},
	{`! ~ 'x' [^a-z]+`, []api.Field{bare("!"), bare("~"), bare("'x'"), bare("[^a-z]+")}},
	{`" "`, []api.Field{quoted(" ")}},
}

func repeated(n int, f api.Field) []api.Field {
	return slices.Repeat([]api.Field{f}, n)
}

func TestSplit(t *testing.T) {
	for _, x := range lines {
		if l, e := words.Split(x.line); !slices.Equal(l, x.fields) || e != api.OK {
			t.Errorf("Split(%s): %v, %d", x.line, l, e)
		}
	}
}

func TestSplitForm(t *testing.T) {
	for _, s := range []string{
		` `, `  `, ` a`, `a `, `a  b`, `"a" `, ` "a"`, `"a"  "b"`, "a\tb", "a\n", "\n",
		`a"b`, `a"`, `"a"b`, `"a""b"`, `"`, `a "`, `"a`, `"a b`, `a\b`, `\`, `"\x41"`, `a "\q" b`,
		"\xe9", "a\x7f", "\x1f", "\x00", "\"\x00\"",
	} {
		if l, e := words.Split(s); len(l) != 0 || e != api.ErrForm {
			t.Errorf("Split(%q): %v, %d", s, l, e)
		}
	}
}

// TestBareBytes looks at every byte in a bare field.
func TestBareBytes(t *testing.T) {
	for b := range 256 {
		s := "a" + string([]byte{byte(b)}) + "c"
		may := b > 32 && b < 127 && b != '"' && b != '\\'
		alone, e := words.Split(s)
		if whole := e == api.OK && slices.Equal(alone, []api.Field{bare(s)}); whole != may {
			t.Errorf("Split(%q): %v, %d", s, alone, e)
		}
		if got, e := words.Join([]api.Field{bare(s)}); may && (got != s || e != api.OK) || !may && (got != "" || e != api.ErrForm) {
			t.Errorf("Join of the bare field %q: %q, %d", s, got, e)
		}
	}
}

func TestSplitLimits(t *testing.T) {
	longField := `"` + strings.Repeat(`\x00`, 2001) + `"`
	for i, x := range []struct {
		line string
		many int
		e    api.Errno
	}{
		{strings.Repeat("a", 2000), 1, api.OK},
		{strings.Repeat("a", 2001), 0, api.ErrLong},
		{`"` + strings.Repeat(`\x00`, 2000) + `"`, 1, api.OK},
		{longField, 0, api.ErrLong},
		{strings.Repeat("a ", 63) + "a", 64, api.OK},
		{strings.Repeat("a ", 64) + "a", 0, api.ErrLong},
		{strings.Repeat(`"" `, 63) + `""`, 64, api.OK},
		{strings.Repeat(`"" `, 64) + `""`, 0, api.ErrLong},
		// 4 fields of 2000 bytes and one of the rest: 8192 bytes, and one more.
		{strings.Repeat(strings.Repeat("a", 2000)+" ", 4) + strings.Repeat("a", 188), 5, api.OK},
		{strings.Repeat(strings.Repeat("a", 2000)+" ", 4) + strings.Repeat("a", 189), 0, api.ErrLong},
		// The length of the line comes first, then its form, then the fields.
		{strings.Repeat(" ", 8192), 0, api.ErrForm},
		{strings.Repeat(" ", 8193), 0, api.ErrLong},
		{strings.Repeat("a ", 64), 0, api.ErrForm},
		{strings.Repeat("a ", 70) + `"`, 0, api.ErrForm},
		{strings.Repeat("a", 2001) + " ", 0, api.ErrForm},
		{longField + "a", 0, api.ErrForm},
		{strings.Repeat("a", 2001) + " b", 0, api.ErrLong},
	} {
		if l, e := words.Split(x.line); len(l) != x.many || e != x.e {
			t.Errorf("%d: Split: %d fields, %d; want %d, %d", i, len(l), e, x.many, x.e)
		}
	}
}

func TestJoin(t *testing.T) {
	for _, x := range lines {
		if s, e := words.Join(x.fields); s != x.line || e != api.OK {
			t.Errorf("Join(%v): %s, %d", x.fields, s, e)
		}
	}
	if s, e := words.Join([]api.Field{}); s != "" || e != api.OK {
		t.Errorf("Join of an empty list: %q, %d", s, e)
	}
}

func TestJoinForm(t *testing.T) {
	for _, s := range []string{"", " ", "a b", " a", "a ", `"`, `a"b`, `\`, `a\`, "a\n", "\t", "\x00", "\x1f", "\x7f", "\x80", "\xff", "\xc3\xa9"} {
		for _, l := range [][]api.Field{{bare(s)}, {bare("a"), bare(s)}, {bare(s), quoted("a")}} {
			if got, e := words.Join(l); got != "" || e != api.ErrForm {
				t.Errorf("Join(%v): %q, %d", l, got, e)
			}
		}
	}
}

func TestJoinLimits(t *testing.T) {
	full := bare(strings.Repeat("a", 2000))
	long := bare(strings.Repeat("a", 2001))
	for i, x := range []struct {
		l      []api.Field
		length int
		e      api.Errno
	}{
		{repeated(64, bare("a")), 127, api.OK},
		{repeated(65, bare("a")), 0, api.ErrLong},
		{[]api.Field{full}, 2000, api.OK},
		{[]api.Field{long}, 0, api.ErrLong},
		{[]api.Field{quoted(strings.Repeat("\x00", 2000))}, 8002, api.OK},
		{[]api.Field{quoted(strings.Repeat("\x00", 2001))}, 0, api.ErrLong},
		{[]api.Field{quoted(long.S)}, 0, api.ErrLong},
		{append(repeated(4, full), bare(strings.Repeat("a", 188))), 8192, api.OK},
		{append(repeated(4, full), bare(strings.Repeat("a", 189))), 0, api.ErrLong},
		{[]api.Field{quoted(strings.Repeat("\x00", 2000)), bare(strings.Repeat("a", 189))}, 8192, api.OK},
		{[]api.Field{quoted(strings.Repeat("\x00", 2000)), bare(strings.Repeat("a", 190))}, 0, api.ErrLong},
		// The number and the length of fields come first, then their form, then the length of the line.
		{repeated(65, bare("")), 0, api.ErrLong},
		{repeated(64, bare("")), 0, api.ErrForm},
		{[]api.Field{bare(""), long}, 0, api.ErrLong},
		{[]api.Field{long, bare("")}, 0, api.ErrLong},
		{[]api.Field{bare(strings.Repeat(" ", 2001))}, 0, api.ErrLong},
		{append(repeated(5, full), bare(" ")), 0, api.ErrForm},
		{append(repeated(63, full), bare("a b")), 0, api.ErrForm},
	} {
		if s, e := words.Join(x.l); len(s) != x.length || e != x.e {
			t.Errorf("%d: Join: %d bytes, %d; want %d, %d", i, len(s), e, x.length, x.e)
		}
	}
}

func TestLines(t *testing.T) {
	for text, want := range map[string][]string{
		"":                nil,
		"\n":              {""},
		"\n\n":            {"", ""},
		"a\n":             {"a"},
		"a\nb\n":          {"a", "b"},
		"a\n\n b\r\n":     {"a", "", " b\r"},
		"\x00\xff\"\\\n ": nil,
		"\x00\xff\"\\\n":  {"\x00\xff\"\\"},
		"\r\n\ta \n":      {"\r", "\ta "},
	} {
		e := api.OK
		if text != "" && !strings.HasSuffix(text, "\n") {
			e = api.ErrForm
		}
		if l, got := words.Lines(text); !slices.Equal(l, want) || got != e {
			t.Errorf("Lines(%q): %q, %d", text, l, got)
		}
	}
}

func TestLinesLimits(t *testing.T) {
	for i, x := range []struct {
		text string
		many int
		e    api.Errno
	}{
		{"a", 0, api.ErrForm},
		{"a\nb", 0, api.ErrForm},
		{"\n ", 0, api.ErrForm},
		{"\r", 0, api.ErrForm},
		{strings.Repeat("\n", 5000), 5000, api.OK},
		{strings.Repeat("\n", 5001), 0, api.ErrLong},
		{strings.Repeat("a\n", 5000), 5000, api.OK},
		{strings.Repeat("a\n", 5000) + "a", 0, api.ErrForm},
		{strings.Repeat("\n", 5001) + "a", 0, api.ErrForm},
		{strings.Repeat("a", 1<<20-1) + "\n", 1, api.OK},
		{strings.Repeat("a", 1<<20) + "\n", 0, api.ErrLong},
		{strings.Repeat("a", 1<<20), 0, api.ErrForm},
		{strings.Repeat("a", 1<<20+1), 0, api.ErrLong},
	} {
		if l, e := words.Lines(x.text); len(l) != x.many || e != x.e {
			t.Errorf("%d: Lines: %d lines, %d; want %d, %d", i, len(l), e, x.many, x.e)
		}
	}
}

// anyFields returns fields that a line may have.
func anyFields(r *rand.Rand) []api.Field {
	l := make([]api.Field, 1+r.Intn(6))
	for i := range l {
		if r.Intn(2) == 0 {
			l[i] = quoted(anyText(r, 8))
			continue
		}
		s := "-"
		for range r.Intn(6) {
			s += string(rune("!#a0[]~^'"[r.Intn(9)]))
		}
		l[i] = bare(s)
	}
	return l
}

// TestFieldsBothWays: Split of Join is the fields, Join of Split the line (P1.7).
func TestFieldsBothWays(t *testing.T) {
	r := rand.New(rand.NewSource(3))
	for range 5000 {
		l := anyFields(r)
		s, e := words.Join(l)
		if e != api.OK {
			t.Fatalf("Join(%v): %d", l, e)
		}
		if got, e := words.Split(s); !slices.Equal(got, l) || e != api.OK {
			t.Fatalf("Split of Join(%v): %v, %d", l, got, e)
		}
	}
	textsOver(" \"\\anx0", 6, func(s string) {
		l, e := words.Split(s)
		if e != api.OK {
			if len(l) != 0 || e != api.ErrForm {
				t.Fatalf("Split(%q): %v, %d", s, l, e)
			}
			return
		}
		if got, e := words.Join(l); got != s || e != api.OK {
			t.Fatalf("Join of Split(%q): %q, %d", s, got, e)
		}
	})
}

// TestJoinParts: lists of fields are joined together or apart (P1.8).
func TestJoinParts(t *testing.T) {
	r := rand.New(rand.NewSource(4))
	for range 5000 {
		a, b := anyFields(r), anyFields(r)
		first, _ := words.Join(a)
		second, _ := words.Join(b)
		if s, e := words.Join(slices.Concat(a, b)); s != first+" "+second || e != api.OK {
			t.Fatalf("Join of %v and %v: %q, %d", a, b, s, e)
		}
	}
}

// within reports whether part is a part of the memory of whole.
func within(part, whole string) bool {
	if part == "" || whole == "" {
		return false
	}
	p, w := uintptr(unsafe.Pointer(unsafe.StringData(part))), uintptr(unsafe.Pointer(unsafe.StringData(whole)))
	return w <= p && p < w+uintptr(len(whole))
}

// TestFresh: arguments are left alone, and results share no memory with them or with later results (P1.8, R3).
func TestFresh(t *testing.T) {
	line := strings.Join([]string{"get", "/", `"a b"`}, " ")
	first, _ := words.Split(line)
	for _, f := range first {
		if within(f.S, line) {
			t.Errorf("the field %q is a part of the line", f.S)
		}
	}
	clear(first)
	if again, _ := words.Split(line); !slices.Equal(again, []api.Field{bare("get"), bare("/"), quoted("a b")}) {
		t.Errorf("Split a second time: %v", again)
	}
	text := strings.Repeat("abc\n", 3)
	l, _ := words.Lines(text)
	for _, s := range l {
		if within(s, text) {
			t.Errorf("the line %q is a part of the text", s)
		}
	}
	clear(l)
	if again, _ := words.Lines(text); !slices.Equal(again, []string{"abc", "abc", "abc"}) {
		t.Errorf("Lines a second time: %q", again)
	}
	fields := []api.Field{bare("a-field"), quoted("b"), bare("c")}
	kept := slices.Clone(fields)
	if s, _ := words.Join(fields[:1]); within(s, fields[0].S) {
		t.Error("the line is a field")
	}
	if words.Join(fields[:2]); !slices.Equal(fields, kept) {
		t.Errorf("Join changed its fields: %v", fields)
	}
}
