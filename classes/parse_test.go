package classes_test

import (
	"strings"
	"testing"

	"dragnet/api"
	"dragnet/classes"
)

// TestParseExamples: the chapter's examples, and what it says of the index (P3.3).
func TestParseExamples(t *testing.T) {
	for _, c := range []struct {
		text string
		at   int
		e    api.Errno
		want model
	}{
		{"[c-aa]", 3, api.ErrForm, model{}},
		{"[a", 2, api.ErrForm, model{}},
		{"[a]b", 3, api.ErrForm, model{}},
		{"[a b]", 2, api.ErrForm, model{}},
		{"[a b", 2, api.ErrForm, model{}},
		{"[xa-cba]", 0, api.OK, modelOf('a', 'b', 'c', 'x')},
		{"", 0, api.ErrForm, model{}},
		{"a]", 0, api.ErrForm, model{}},
		{"]", 0, api.ErrForm, model{}},
		{" []", 0, api.ErrForm, model{}},
		{"[", 1, api.ErrForm, model{}},
		{"[^", 2, api.ErrForm, model{}},
		{"[]", 0, api.OK, model{}},
		{"[^]", 0, api.OK, only(func(int) bool { return true })},
		{"[^^]", 2, api.ErrForm, model{}},
		{"[a^]", 2, api.ErrForm, model{}},
		{`[^\^]`, 0, api.OK, only(func(b int) bool { return b != '^' })},
		{`[\^]`, 0, api.OK, modelOf('^')},
		{"[[]", 1, api.ErrForm, model{}},
		{"[]]", 2, api.ErrForm, model{}},
		{"[-]", 1, api.ErrForm, model{}},
		{"[-a]", 1, api.ErrForm, model{}},
		{"[a-]", 3, api.ErrForm, model{}},
		{"[a-", 3, api.ErrForm, model{}},
		{"[a--]", 3, api.ErrForm, model{}},
		{"[a-c-e]", 4, api.ErrForm, model{}},
		{`[+-\-]`, 0, api.OK, modelOf('+', ',', '-')},
		{`[\--/]`, 0, api.OK, modelOf('-', '.', '/')},
		{"[a-a]", 0, api.OK, modelOf('a')},
		{"[b-a]", 3, api.ErrForm, model{}},
		{`[b-\x61]`, 3, api.ErrForm, model{}},
		{`[b-\x61`, 3, api.ErrForm, model{}},
		{`[b-\x6`, 6, api.ErrForm, model{}},
		{`[b-\x6g]`, 6, api.ErrForm, model{}},
		{`[\x62-a]`, 6, api.ErrForm, model{}},
		{`[\x41]`, 0, api.OK, modelOf('A')},
		{`[\x5c\x5d\x2d]`, 0, api.OK, modelOf('\\', ']', '-')},
		{`[\x00-\xff]`, 0, api.OK, only(func(int) bool { return true })},
		{`[\x4A]`, 4, api.ErrForm, model{}},
		{`[\X41]`, 2, api.ErrForm, model{}},
		{`[\x]`, 3, api.ErrForm, model{}},
		{`[\x4]`, 4, api.ErrForm, model{}},
		{`[\x4`, 4, api.ErrForm, model{}},
		{`[\x`, 3, api.ErrForm, model{}},
		{`[\`, 2, api.ErrForm, model{}},
		{`[\a]`, 2, api.ErrForm, model{}},
		{`[\ ]`, 2, api.ErrForm, model{}},
		{`[x]`, 0, api.OK, modelOf('x')},
		{"[aa-zb]", 0, api.OK, only(func(b int) bool { return 'a' <= b && b <= 'z' })},
		{"[a]]", 3, api.ErrForm, model{}},
		{"[a][b]", 3, api.ErrForm, model{}},
		{"[é]", 1, api.ErrForm, model{}},
	} {
		if s, at, e := classes.Parse(c.text); s != c.want.set() || at != c.at || e != c.e {
			t.Errorf("Parse(%s) = %x, %d, %d; not %x, %d, %d", c.text, s, at, e, c.want.set(), c.at, c.e)
		}
	}
	s, _, _ := classes.Parse("[xa-cba]")
	if text := classes.Print(s); text != "[a-cx]" {
		t.Errorf("Print of Parse = %s", text)
	}
}

// TestPrefixExamples: how many bytes the class has, whatever follows.
func TestPrefixExamples(t *testing.T) {
	letters := only(func(b int) bool { return b < 'a' || b > 'z' })
	for _, c := range []struct {
		text string
		n    int
		e    api.Errno
		want model
	}{
		{"[^a-z]+", 6, api.OK, letters},
		{"[^a-z]", 6, api.OK, letters},
		{"[^a-z", 5, api.ErrForm, model{}},
		{"[]]", 2, api.OK, model{}},
		{"[] \x00\xff", 2, api.OK, model{}},
		{"[a][b-a]", 3, api.OK, modelOf('a')},
		{"[c-aa]", 3, api.ErrForm, model{}},
		{"", 0, api.ErrForm, model{}},
		{"a[b]", 0, api.ErrForm, model{}},
	} {
		if s, n, e := classes.Prefix(c.text); s != c.want.set() || n != c.n || e != c.e {
			t.Errorf("Prefix(%s) = %x, %d, %d", c.text, s, n, e)
		}
	}
}

// TestParseBytes: each byte in its own place, after a backslash, and as a digit, is one or is none.
func TestParseBytes(t *testing.T) {
	const digits = "0123456789abcdef"
	for b := range 256 {
		c := string([]byte{byte(b)})
		mark := strings.Contains(`[]\^-`, c)
		digit := strings.Index(digits, c)
		check(t, "["+c+"]", 33 <= b && b <= 126 && !mark, modelOf(byte(b)))
		check(t, "[k"+c+"k]", 33 <= b && b <= 126 && !mark, modelOf('k', byte(b)))
		check(t, `[\`+c+"k]", mark, modelOf('k', byte(b)))
		check(t, `[\x2`+c+"]", digit >= 0, modelOf(byte(0x20+digit)))
		check(t, `[\x`+c+"2]", digit >= 0, modelOf(byte(16*digit+2)))
		check(t, c+"k]", c == "[", modelOf('k'))
	}
}

// check checks Parse of a text that is a class of this set if ok, and whatever it is by the automaton.
func check(t *testing.T, text string, ok bool, want model) {
	t.Helper()
	if s, at, e := classes.Parse(text); ok && (s != want.set() || at != 0 || e != api.OK) {
		t.Errorf("Parse(%q) = %x, %d, %d", text, s, at, e)
	}
	s, at, e := prefixOf(text)
	compare(t, text, s, at, e)
}

// TestParseRanges: any two bytes with a hyphen between them.
func TestParseRanges(t *testing.T) {
	for low := range 256 {
		for high := range 256 {
			text := "[" + textOf(byte(low)) + "-" + textOf(byte(high)) + "]"
			want, at, e := only(func(b int) bool { return low <= b && b <= high }), 0, api.OK
			if high < low {
				want, at, e = model{}, len(textOf(byte(low)))+2, api.ErrForm
			}
			if s, n, f := classes.Parse(text); s != want.set() || n != at || f != e {
				t.Fatalf("Parse(%s) = %x, %d, %d", text, s, n, f)
			}
		}
	}
}

// automaton reads classes byte by byte: an independent reading of the grammar.
type automaton struct {
	state     string
	set       model
	not       bool
	low, high byte
	ranged    bool
	digits    int
	from      int
}

// step reads a byte at an index; it returns the index of an error, or -1.
func (a *automaton) step(c byte, at int) int {
	plain := 33 <= c && c <= 126 && !strings.ContainsRune(`[]\^-`, rune(c))
	switch {
	case a.state == "start" && c == '[':
		a.state = "head"
	case a.state == "head" && c == '^':
		a.not, a.state = true, "part"
	case (a.state == "head" || a.state == "part" || a.state == "byte") && c == ']':
		a.flush()
		a.state = "end"
	case a.state == "byte" && c == '-':
		a.state, a.ranged = "high", true
	case a.state != "start" && a.state != "escape" && a.state != "hex" && (plain || c == '\\'):
		if a.state == "byte" {
			a.flush()
		}
		a.from = at
		if c == '\\' {
			a.state = "escape"
			return -1
		}
		return a.take(c)
	case a.state == "escape" && strings.ContainsRune(`[]\^-`, rune(c)):
		return a.take(c)
	case a.state == "escape" && c == 'x':
		a.state, a.digits, a.high = "hex", 0, 0
	case a.state == "hex" && strings.ContainsRune("0123456789abcdef", rune(c)):
		a.high = a.high*16 + byte(strings.IndexByte("0123456789abcdef", c))
		if a.digits++; a.digits == 2 {
			return a.take(a.high)
		}
	default:
		return at
	}
	return -1
}

// take ends a byte: the first one of a part, or the second one.
func (a *automaton) take(c byte) int {
	if !a.ranged {
		a.low, a.high, a.state = c, c, "byte"
		return -1
	}
	if c < a.low {
		return a.from
	}
	for b := int(a.low); b <= int(c); b++ {
		a.set[b] = true
	}
	a.ranged, a.state = false, "part"
	return -1
}

// flush adds a byte that is a part of its own.
func (a *automaton) flush() {
	if a.state == "byte" {
		a.set[a.low] = true
	}
}

// prefixOf is Prefix by the automaton.
func prefixOf(text string) (api.ClSet, int, api.Errno) {
	a := automaton{state: "start"}
	for i := range len(text) {
		if at := a.step(text[i], i); at >= 0 {
			return api.ClSet{}, at, api.ErrForm
		}
		if a.state == "end" {
			if a.not {
				a.set = only(func(b int) bool { return !a.set[b] })
			}
			return a.set.set(), i + 1, api.OK
		}
	}
	return api.ClSet{}, len(text), api.ErrForm
}

// TestParseAll: all short texts of the bytes that matter.
func TestParseAll(t *testing.T) {
	const alphabet = `[]^-\xac61`
	texts := []string{""}
	for range 6 {
		for _, text := range texts {
			s, n, e := prefixOf("[" + text)
			compare(t, "["+text, s, n, e)
			s, n, e = prefixOf(text)
			compare(t, text, s, n, e)
		}
		texts = longer(texts, alphabet)
		if len(texts) > 200000 {
			break
		}
	}
}

// longer returns these texts with each byte of the alphabet after them.
func longer(texts []string, alphabet string) []string {
	var all []string
	for _, text := range texts {
		for i := range len(alphabet) {
			all = append(all, text+alphabet[i:i+1])
		}
	}
	return all
}

// compare compares Prefix and Parse with what is wanted of Prefix.
func compare(t *testing.T, text string, want api.ClSet, at int, f api.Errno) {
	t.Helper()
	if s, n, e := classes.Prefix(text); s != want || n != at || e != f {
		t.Fatalf("Prefix(%q) = %x, %d, %d; not %x, %d, %d", text, s, n, e, want, at, f)
	}
	if f == api.OK && at < len(text) {
		want, f = api.ClSet{}, api.ErrForm
	} else if f == api.OK {
		at = 0
	}
	if s, n, e := classes.Parse(text); s != want || n != at || e != f {
		t.Fatalf("Parse(%q) = %x, %d, %d; not %x, %d, %d", text, s, n, e, want, at, f)
	}
}

// TestParseMixed: longer texts, some of them with an error.
func TestParseMixed(t *testing.T) {
	pieces := []string{"a", "-", "z", `\x`, "41", `\-`, `\]`, "^", "7f", `\\`, "~", "!", " ", "]", "q-t", `\x00-\x1f`}
	x := uint32(7)
	for range 20000 {
		text := "["
		for range 1 + x>>24%12 {
			x = x*1664525 + 1013904223
			text += pieces[x>>28]
		}
		s, n, e := prefixOf(text + "]")
		compare(t, text+"]", s, n, e)
	}
}

// TestParseLong: there is no limit for the length of a class.
func TestParseLong(t *testing.T) {
	text := "[^" + strings.Repeat(`a\x62c-e`, 20000) + "]"
	s, at, e := classes.Parse(text)
	if s != only(func(b int) bool { return b < 'a' || b > 'e' }).set() || at != 0 || e != api.OK {
		t.Errorf("Parse of a long class = %x, %d, %d", s, at, e)
	}
}
