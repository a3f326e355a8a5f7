package fold_test

import (
	"math/rand"
	"slices"
	"strings"
	"testing"

	"dragnet/api"
	"dragnet/fold"
)

// somePairs calls look for pairs of strings: all short ones of the bytes that matter, and long ones that are alike, or nearly so.
func somePairs(look func(a, b string)) {
	// Of the bytes between both cases, some are above the capitals and below the small letters.
	short := stringsOver("aAzZ[@\xe1", 3)
	for _, a := range short {
		for _, b := range short {
			look(a, b)
		}
	}
	r := rand.New(rand.NewSource(2))
	for range 3000 {
		a := anyString(r, 30)
		b := recased(r, a)
		look(a, b)
		look(a, anyString(r, 30))
		look(a, b+anyString(r, 2))
		look(a[:r.Intn(len(a)+1)], b)
		if a != "" {
			at := r.Intn(len(a))
			look(a, b[:at]+string([]byte{b[at] ^ 32})+b[at+1:])
		}
	}
}

// TestStringPairs: Alike and Compare of many pairs of strings (P4.3), and what the theorem says of them (P4.5).
func TestStringPairs(t *testing.T) {
	somePairs(func(a, b string) {
		want := alikeStrings(a, b)
		if fold.Alike(a, b) != want || fold.Alike(b, a) != want {
			t.Fatalf("Alike(%q, %q) is not %v", a, b, want)
		}
		if c := fold.Compare(a, b); c != sign(keyOf(a), keyOf(b)) {
			t.Fatalf("Compare(%q, %q) = %d", a, b, c)
		}
		if (fold.Key(a) == fold.Key(b)) != want || (fold.Compare(a, b) == 0) != want {
			t.Fatalf("Key or Compare of %q and %q do not say whether they are alike", a, b)
		}
		if inSets(t, a, b) != want {
			t.Fatalf("the bytes of %q in Sets(%q)", a, b)
		}
	})
}

// inSets returns whether the bytes of a are, place by place, in the Sets of b.
func inSets(t *testing.T, a, b string) bool {
	t.Helper()
	sets, e := fold.Sets(b)
	if e != api.OK {
		t.Fatalf("Sets(%q): %d", b, e)
	}
	if len(sets) != len(a) {
		return false
	}
	for i, s := range sets {
		if !in(s, a[i]) {
			return false
		}
	}
	return true
}

// TestEquivalence: a string is alike to itself, in either order, and to what those alike to it are alike to (P4.5).
func TestEquivalence(t *testing.T) {
	short := stringsOver("aAb[{", 2)
	for _, a := range short {
		if !fold.Alike(a, a) {
			t.Errorf("%q is not alike to itself", a)
		}
		for _, b := range short {
			if fold.Alike(a, b) != fold.Alike(b, a) || fold.Compare(a, b) != -fold.Compare(b, a) {
				t.Errorf("%q and %q in the other order", a, b)
			}
			for _, c := range short {
				if fold.Alike(a, b) && fold.Alike(b, c) && !fold.Alike(a, c) {
					t.Errorf("%q, %q and %q", a, b, c)
				}
			}
		}
	}
}

// TestKey: of each byte, and of strings of all bytes (P4.3), twice, and of two strings together (P4.7).
func TestKey(t *testing.T) {
	for b := range 256 {
		s := "A" + string([]byte{byte(b)}) + "z"
		if key := fold.Key(s); key != keyOf(s) {
			t.Errorf("Key(%q) = %q", s, key)
		}
	}
	r := rand.New(rand.NewSource(3))
	for range 3000 {
		a, b := anyString(r, 40), anyString(r, 40)
		key := fold.Key(a)
		if key != keyOf(a) || fold.Key(key) != key {
			t.Fatalf("Key(%q) = %q", a, key)
		}
		if fold.Key(a+b) != key+fold.Key(b) {
			t.Fatalf("Key of %q and %q together", a, b)
		}
	}
}

// TestStringExamples has the row of the chapter's examples, and others.
func TestStringExamples(t *testing.T) {
	for s, want := range map[string]string{"Ab-1Z": "ab-1z", "": "", "\x00\xffQ": "\x00\xffq", "[\\]^_`{|}~@": "[\\]^_`{|}~@", "\xc3\x89É": "\xc3\x89É", capitals: smalls, smalls: smalls} {
		if key := fold.Key(s); key != want {
			t.Errorf("Key(%q) = %q", s, key)
		}
	}
	for _, x := range []struct {
		a, b string
		want int
	}{
		{"aB", "AC", -1}, {"AC", "aB", 1}, {"Ab", "aB", 0}, {"", "", 0}, {"", "a", -1}, {"A", "", 1},
		{"ab", "A", 1}, {"A", "ab", -1}, {"b", "AZ", 1}, {"AZ", "b", -1},
		// A byte between the capitals and the small letters is less than any letter, and bytes have no sign.
		{"[", "A", -1}, {"_", "Z", -1}, {"`", "A", -1}, {"{", "Z", 1}, {"@", "a", -1}, {"\x80", "z", 1}, {"\xff", "Z", 1}, {"\x00", "\xff", -1},
		{"é", "É", 1}, {"a\x00", "A", 1},
	} {
		if c := fold.Compare(x.a, x.b); c != x.want {
			t.Errorf("Compare(%q, %q) = %d", x.a, x.b, c)
		}
		if fold.Alike(x.a, x.b) != (x.want == 0) {
			t.Errorf("Alike(%q, %q) is %v", x.a, x.b, x.want != 0)
		}
	}
}

// TestLongStrings: Alike, Key and Compare have no limit.
func TestLongStrings(t *testing.T) {
	const many = 1 << 18
	a, b := strings.Repeat("aB[é", many), strings.Repeat("Ab[é", many)
	if !fold.Alike(a, b) || fold.Compare(a, b) != 0 || fold.Compare(a, b+"\x00") != -1 || fold.Compare(a+"a", b) != 1 || fold.Alike(a+"a", b+"b") {
		t.Error("Alike and Compare of long strings")
	}
	if fold.Key(a) != strings.Repeat("ab[é", many) {
		t.Error("Key of a long string")
	}
}

// TestSets: Both of each byte, in order, and the limit (P4.4).
func TestSets(t *testing.T) {
	r := rand.New(rand.NewSource(4))
	l := []string{"", "a", "aA1", "[{@`", "\x00\xff", strings.Repeat("k", 512), strings.Repeat("\xff", 511)}
	for range 200 {
		l = append(l, anyString(r, 512))
	}
	for _, s := range l {
		var want []api.ClSet
		for i := range len(s) {
			want = append(want, only(func(b byte) bool { return alikeBytes(b, s[i]) }))
		}
		if sets, e := fold.Sets(s); !slices.Equal(sets, want) || e != api.OK {
			t.Errorf("Sets(%q): %x, %d", s, sets, e)
		}
	}
	for _, many := range []int{513, 514, 4096, 1 << 20} {
		if sets, e := fold.Sets(strings.Repeat("a", many)); len(sets) != 0 || e != api.ErrLong {
			t.Errorf("Sets of %d bytes: %d sets, %d", many, len(sets), e)
		}
	}
}
