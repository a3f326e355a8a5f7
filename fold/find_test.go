package fold_test

import (
	"math/rand"
	"slices"
	"strings"
	"testing"
	"unsafe"

	"dragnet/api"
	"dragnet/fold"
)

// placesOf returns all indices at which a part begins that is alike to s, by definition.
func placesOf(text, s string) []int {
	var l []int
	for at := range len(text) + 1 {
		if at+len(s) <= len(text) && alikeStrings(text[at:at+len(s)], s) {
			l = append(l, at)
		}
	}
	return l
}

// find checks Find and All of a text and a string, whose places are these.
func find(t *testing.T, text, s string, want []int) {
	t.Helper()
	l, e := fold.All(text, s)
	if !slices.Equal(l, want) || e != api.OK {
		t.Fatalf("All(%.80q, %.80q): %v, %d; want %v", text, s, l, e, want)
	}
	first, f := 0, api.ErrNone
	if len(want) > 0 {
		first, f = want[0], api.OK
	}
	if at, e := fold.Find(text, s); at != first || e != f {
		t.Fatalf("Find(%.80q, %.80q): %d, %d; want %d, %d", text, s, at, e, first, f)
	}
}

// TestFindExamples has the row of the chapter's examples, and others.
func TestFindExamples(t *testing.T) {
	for _, x := range []struct {
		text, s string
		want    []int
	}{
		{"xAbAB", "aB", []int{1, 3}},
		{"ab", "", []int{0, 1, 2}},
		{"", "", []int{0}},
		{"", "a", nil},
		{"a", "ab", nil},
		{"ab", "abc", nil},
		{"abc", "d", nil},
		{"ABC", "abc", []int{0}},
		{"xxABC", "abC", []int{2}},
		{"aAaA", "aa", []int{0, 1, 2}},
		{"abaBAba", "ABA", []int{0, 2, 4}},
		{"{[@`", "[", []int{1}},
		{"@`", "`", []int{1}},
		{"é É", "é", []int{0}},
		{"\x00\xff\x00", "\x00", []int{0, 2}},
		{"aab", "AB", []int{1}},
	} {
		find(t, x.text, x.s, x.want)
	}
}

// TestFind looks for short strings in texts of few bytes, and for parts of random texts (P4.4, P4.7).
func TestFind(t *testing.T) {
	for _, text := range stringsOver("aAb[", 5) {
		for _, s := range stringsOver("aB{", 3) {
			find(t, text, s, placesOf(text, s))
		}
	}
	r := rand.New(rand.NewSource(5))
	for range 1000 {
		text := anyString(r, 300)
		from := r.Intn(len(text) + 1)
		s := recased(r, text[from:from+r.Intn(min(5, len(text)-from)+1)])
		find(t, text, s, placesOf(text, s))
	}
}

// TestFindLimits: texts and strings as long as they may be, and one byte longer (P4.4).
func TestFindLimits(t *testing.T) {
	text := strings.Repeat("aB", 2048)
	s := strings.Repeat("Ab", 256)
	find(t, text, s, placesOf(text, s))
	find(t, text, "", placesOf(text, ""))
	find(t, s, s, []int{0})
	find(t, text[:4095]+"x", "X", []int{4095})
	find(t, "", s, nil)
	find(t, s[:511], s, nil)
	for _, x := range [][2]string{
		{text + "a", "a"}, {text + "a", ""}, {text + "a", s}, {text, s + "a"}, {"", s + "a"}, {s, s + "a"}, {text + "a", s + "a"},
		{text + "a", "x"}, {text, strings.Repeat("x", 513)}, {strings.Repeat("a", 1<<20), "a"}, {"a", strings.Repeat("a", 1<<20)},
	} {
		if at, e := fold.Find(x[0], x[1]); at != 0 || e != api.ErrLong {
			t.Errorf("Find of %d bytes in %d: %d, %d", len(x[1]), len(x[0]), at, e)
		}
		if l, e := fold.All(x[0], x[1]); len(l) != 0 || e != api.ErrLong {
			t.Errorf("All of %d bytes in %d: %d places, %d", len(x[1]), len(x[0]), len(l), e)
		}
	}
}

// TestFresh: lists that come out share no memory with those of other calls (P4.7, R3).
func TestFresh(t *testing.T) {
	sets, _ := fold.Sets("aB")
	clear(sets[:cap(sets)])
	if again, e := fold.Sets("aB"); !slices.Equal(again, []api.ClSet{setOf("Aa"), setOf("Bb")}) || e != api.OK {
		t.Errorf("Sets a second time: %x, %d", again, e)
	}
	l, _ := fold.All("xAbAB", "aB")
	clear(l[:cap(l)])
	if again, e := fold.All("xAbAB", "aB"); !slices.Equal(again, []int{1, 3}) || e != api.OK {
		t.Errorf("All a second time: %v, %d", again, e)
	}
}

// TestKeyIsNew: the small form of a string is not the memory of this string (P4.7, R3).
func TestKeyIsNew(t *testing.T) {
	s := strings.Repeat("already small ", 20)
	if key := fold.Key(s); key != s || unsafe.StringData(key) == unsafe.StringData(s) {
		t.Errorf("Key(%q) is the same memory, or %q", s, key)
	}
}
