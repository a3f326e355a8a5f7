package fold_test

import (
	"testing"

	"dragnet/api"
	"dragnet/classes"
	"dragnet/fold"
)

// isClosed returns whether a set is closed, by definition.
func isClosed(s api.ClSet) bool {
	for a := range 256 {
		for b := range 256 {
			if in(s, byte(a)) && alikeBytes(byte(a), byte(b)) && !in(s, byte(b)) {
				return false
			}
		}
	}
	return true
}

// closeOf is the set of the bytes that are the same letter as one of the set.
func closeOf(s api.ClSet) api.ClSet {
	return only(func(b byte) bool {
		for c := range 256 {
			if in(s, byte(c)) && alikeBytes(b, byte(c)) {
				return true
			}
		}
		return false
	})
}

// openOf is the set of the bytes of which all that are the same letter are in the set.
func openOf(s api.ClSet) api.ClSet {
	return only(func(b byte) bool {
		for c := range 256 {
			if alikeBytes(b, byte(c)) && !in(s, byte(c)) {
				return false
			}
		}
		return true
	})
}

// TestClosed, and what Close and Open make of some sets (P4.2).
func TestClosed(t *testing.T) {
	for _, s := range someSets() {
		if fold.Closed(s) != isClosed(s) {
			t.Errorf("Closed(%x) is %v", s, !isClosed(s))
		}
		if c := fold.Close(s); c != closeOf(s) {
			t.Errorf("Close(%x) = %x", s, c)
		}
		if o := fold.Open(s); o != openOf(s) {
			t.Errorf("Open(%x) = %x", s, o)
		}
	}
}

// TestSetExamples has the row of the chapter's examples, and others.
func TestSetExamples(t *testing.T) {
	for _, x := range []struct{ s, closed, open string }{
		{"", "", ""},
		{"a1", "Aa1", "1"},
		{"aAb", "aAbB", "aA"},
		{"A", "Aa", ""},
		{"z", "Zz", ""},
		{"@[`{", "@[`{", "@[`{"},
		{"Kk", "Kk", "Kk"},
		{"\x00\xff\xc1", "\x00\xff\xc1", "\x00\xff\xc1"},
		{capitals, capitals + smalls, ""},
	} {
		if s := fold.Close(setOf(x.s)); s != setOf(x.closed) {
			t.Errorf("Close of the set of %q: %x", x.s, s)
		}
		if s := fold.Open(setOf(x.s)); s != setOf(x.open) {
			t.Errorf("Open of the set of %q: %x", x.s, s)
		}
		if is := fold.Closed(setOf(x.s)); is != (setOf(x.s) == setOf(x.closed)) {
			t.Errorf("Closed of the set of %q is %v", x.s, is)
		}
	}
	all := allBytes()
	if fold.Close(all) != all || fold.Open(all) != all || !fold.Closed(all) {
		t.Error("the set of all bytes is not closed")
	}
}

// TestLeastAndGreatest: of the closed sets that are made of some bytes, Close is the least one in which the set is, Open the greatest one that is in it (P4.2).
func TestLeastAndGreatest(t *testing.T) {
	const members = "AaBb1@"
	var sets []api.ClSet
	for bits := range 1 << len(members) {
		some := ""
		for i := range len(members) {
			if bits>>i&1 == 1 {
				some += members[i : i+1]
			}
		}
		sets = append(sets, setOf(some))
	}
	for _, s := range sets {
		closed, open := fold.Close(s), fold.Open(s)
		if !isClosed(closed) || !isClosed(open) || !classes.Sub(s, closed) || !classes.Sub(open, s) {
			t.Fatalf("Close and Open of %x: %x, %x", s, closed, open)
		}
		for _, other := range sets {
			if isClosed(other) && classes.Sub(s, other) && !classes.Sub(closed, other) {
				t.Fatalf("Close(%x) = %x; there is %x", s, closed, other)
			}
			if isClosed(other) && classes.Sub(other, s) && !classes.Sub(other, open) {
				t.Fatalf("Open(%x) = %x; there is %x", s, open, other)
			}
		}
	}
}

// TestSetLaws: Close and Open twice, of the complement, and of a set with more bytes (P4.6).
func TestSetLaws(t *testing.T) {
	sets := someSets()
	for i, s := range sets {
		closed, open := fold.Close(s), fold.Open(s)
		if fold.Close(closed) != closed || fold.Open(open) != open {
			t.Fatalf("Close or Open of %x, twice", s)
		}
		if fold.Open(classes.Not(s)) != classes.Not(closed) || fold.Close(classes.Not(s)) != classes.Not(open) {
			t.Fatalf("Open and Close of the complement of %x", s)
		}
		if !fold.Closed(closed) || !fold.Closed(open) {
			t.Fatalf("Close or Open of %x is not closed", s)
		}
		for j := range 50 {
			more := classes.Union(s, sets[(i+11*j)%len(sets)])
			if !classes.Sub(closed, fold.Close(more)) || !classes.Sub(open, fold.Open(more)) {
				t.Fatalf("Close or Open of %x has fewer bytes than of %x", more, s)
			}
		}
	}
}
