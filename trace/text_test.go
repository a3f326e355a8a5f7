package trace_test

import (
	"fmt"
	"math"
	"math/rand"
	"slices"
	"strings"
	"testing"

	"dragnet/api"
	"dragnet/trace"
)

// print compares a call of Print with what it has to return.
func print(t *testing.T, l []api.TrEvent, want string, e api.Errno) {
	t.Helper()
	if s, f := trace.Print(l); s != want || f != e {
		t.Errorf("Print(%d steps): %.60q, %d; want %.60q, %d", len(l), s, f, want, e)
	}
}

// TestPrint has the chapter's example, no steps, and runs at each end (P6.4).
func TestPrint(t *testing.T) {
	for _, x := range []struct {
		l    []api.TrEvent
		want string
	}{
		{nil, ""}, {[]api.TrEvent{}, ""},
		{sample(), "load 5 2\nstore 6 1\nstore 6 1\nload 7 1\n"},
		{[]api.TrEvent{load(0)}, "load 0 1\n"}, {[]api.TrEvent{store(65535)}, "store 65535 1\n"},
		{[]api.TrEvent{load(1), load(0)}, "load 1 1\nload 0 1\n"},
		{[]api.TrEvent{load(1), load(3)}, "load 1 1\nload 3 1\n"},
		{[]api.TrEvent{load(1), store(2), load(2), load(3), store(3), store(4), store(5)}, "load 1 1\nstore 2 1\nload 2 2\nstore 3 3\n"},
		{[]api.TrEvent{load(0), load(1), load(2), load(0), load(1), load(2)}, "load 0 3\nload 0 3\n"},
		{[]api.TrEvent{load(65534), load(65535), load(0)}, "load 65534 2\nload 0 1\n"},
	} {
		print(t, x.l, x.want, api.OK)
	}
	var all []api.TrEvent
	for at := range int32(65536) {
		all = append(all, load(at))
	}
	print(t, all, "load 0 65536\n", api.OK)
	print(t, append(all, load(0)), "load 0 65536\nload 0 1\n", api.OK)
}

// TestPrintErrors has steps that are none, the first of which counts (P6.4).
func TestPrintErrors(t *testing.T) {
	for _, kind := range []int32{0, 3, -1, 257, math.MaxInt32, math.MinInt32} {
		print(t, []api.TrEvent{load(1), {Kind: kind, At: 2}, load(70000)}, "", api.ErrArg)
		print(t, []api.TrEvent{{Kind: kind, At: -1}}, "", api.ErrArg)
	}
	for _, at := range []int32{-1, 65536, math.MaxInt32, math.MinInt32} {
		print(t, []api.TrEvent{load(1), load(at), {}}, "", api.ErrRange)
	}
	print(t, []api.TrEvent{load(65535), load(65536)}, "", api.ErrRange)
}

// TestPrintLines has as many lines as a text may have, and one more; steps that are none come first (P6.4, P6.5).
func TestPrintLines(t *testing.T) {
	l := slices.Repeat([]api.TrEvent{store(65535)}, 5000)
	text := strings.Repeat("store 65535 1\n", 5000)
	print(t, l, text, api.OK)
	back(t, text, l)
	print(t, append(l, store(65535)), "", api.ErrLong)
	print(t, append(l, load(65535)), "", api.ErrLong)
	print(t, append(l, load(65536)), "", api.ErrRange)
	print(t, append(l, load(1), api.TrEvent{}), "", api.ErrArg)
	// A run that goes on is no further line.
	l[4999] = store(7)
	l = append(l, store(8), store(9))
	print(t, l, text[:len(text)-14]+"store 7 3\n", api.OK)
	print(t, append(l, store(9)), "", api.ErrLong)
}

// back checks that a text is parsed to a trace, and printed to itself.
func back(t *testing.T, s string, want []api.TrEvent) {
	t.Helper()
	l, line, e := trace.Parse(s)
	if !slices.Equal(l, want) || line != 0 || e != api.OK {
		t.Errorf("Parse(%.60q): %d steps, %d, %d; want %d steps", s, len(l), line, e, len(want))
	}
	print(t, want, s, api.OK)
}

// wrong checks the error of a text, and its line.
func wrong(t *testing.T, s string, line int, want api.Errno) {
	t.Helper()
	if l, n, e := trace.Parse(s); len(l) != 0 || n != line || e != want {
		t.Errorf("Parse(%.60q): %d steps, %d, %d; want %d, %d", s, len(l), n, e, line, want)
	}
}

// TestParse has texts of traces, the empty one among them (P6.4, P6.5).
func TestParse(t *testing.T) {
	back(t, "", nil)
	back(t, "load 5 2\nstore 6 1\nstore 6 1\nload 7 1\n", sample())
	back(t, "load 0 1\n", []api.TrEvent{load(0)})
	back(t, "store 65535 1\n", []api.TrEvent{store(65535)})
	back(t, "load 65533 3\n", []api.TrEvent{load(65533), load(65534), load(65535)})
	back(t, "load 5 1\nstore 6 1\nload 6 1\n", []api.TrEvent{load(5), store(6), load(6)})
	back(t, "load 6 1\nload 5 1\nload 7 1\nload 7 1\n", []api.TrEvent{load(6), load(5), load(7), load(7)})
	l, line, e := trace.Parse("store 0 65536\n")
	if len(l) != 65536 || l[0] != store(0) || l[65535] != store(65535) || line != 0 || e != api.OK {
		t.Errorf("all cells: %d steps, %d, %d", len(l), line, e)
	}
}

// TestParseForm has lines that are none (P6.4).
func TestParseForm(t *testing.T) {
	for _, s := range []string{
		"", " ", "  ", "load", "load ", "load 5", "load 5 ", "load 5 1 ", "load 5 1 1", " load 5 1", "load  5 1", "load 5  1", "load\t5 1", "load 5\t1", "load 5 1\r", "load 5 1\x00", "load 5,1",
		"Load 5 1", "LOAD 5 1", "loads 5 1", "loa 5 1", "1 5 1", "stor 5 1", "storeload 5 1", "\"load\" 5 1", "5 1 load", "load store 1", " 5 1", "\xff 5 1",
		"load 05 1", "load 00 1", "load +5 1", "load -0 1", "load -1 1", "load 0x5 1", "load 5. 1", "load 1_0 1", "load a 1", "load \"5\" 1", "load ٥ 1", "load 1e2 1",
		"load 5 01", "load 5 00", "load 5 +1", "load 5 -0", "load 5 -1", "load 5 0x1", "load 5 1.", "load 5 b", "load 5 \"1\"",
		"load 1000000001 1", "load 5 1000000001", "load 1000000001 0", "load 0 18446744073709551617", "load 18446744073709551616 1", "load 4294967296 1", "load 0 4294967297", "load 99999999999999999999999999 1",
		"store 01 1", strings.Repeat("9", 10000), strings.Repeat(" ", 10000), "load 5 1 " + strings.Repeat(" ", 10000),
	} {
		wrong(t, s+"\n", 1, api.ErrForm)
		wrong(t, "load 9 1\nstore 2 3\n"+s+"\nload 65536 1\n", 3, api.ErrForm)
	}
	wrong(t, "\n\n", 1, api.ErrForm)
	wrong(t, "load 1 1\n\n", 2, api.ErrForm)
	wrong(t, "load 1 1\n\nload 1 1\n", 2, api.ErrForm)
}

// TestParseRange tries each limit of addresses, and one beyond it (P6.4).
func TestParseRange(t *testing.T) {
	for _, s := range []string{
		"load 1 0", "load 0 0", "store 65536 0", "load 1000000000 0", "load 65536 1", "load 65535 2", "load 0 65537", "load 1 65536", "store 2 65535",
		"load 1000000000 1", "load 0 1000000000", "load 1000000000 1000000000", "load 65535 1000000000", "load 999999999 5",
	} {
		wrong(t, s+"\n", 1, api.ErrRange)
		wrong(t, "load 9 1\nstore 2 3\n"+s+"\nload x 1\n", 3, api.ErrRange)
	}
	back(t, "load 65534 2\nstore 65535 1\n", []api.TrEvent{load(65534), load(65535), store(65535)})
}

// TestParseJoined has lines that could be joined with the ones before them; that comes after ErrRange (P6.4).
func TestParseJoined(t *testing.T) {
	wrong(t, "load 5 1\nload 6 1\n", 2, api.ErrForm)
	wrong(t, "store 0 3\nstore 3 9\nload x\n", 2, api.ErrForm)
	wrong(t, "load 1 1\nstore 0 3\nstore 3 9\n", 3, api.ErrForm)
	wrong(t, "load 5 1\nload 6 0\n", 2, api.ErrRange)
	wrong(t, "load 65535 1\nload 65536 1\n", 2, api.ErrRange)
	wrong(t, "load 65530 3\nload 65533 4\n", 2, api.ErrRange)
	back(t, "store 0 1\nload 1 1\n", []api.TrEvent{store(0), load(1)})
}

// TestParseEnds has texts that are too long, or do not end with a byte 10: this is told of no line (P6.4).
func TestParseEnds(t *testing.T) {
	for _, s := range []string{"load 5 1", "load 1 1\nload 5 1", "x", " ", "\x00", "load 5 1\r", "\n\n ", "x\ny"} {
		wrong(t, s, 0, api.ErrForm)
	}
	const most = 1 << 20
	x := strings.Repeat("x", most)
	wrong(t, x+"\n", 0, api.ErrLong)
	wrong(t, x+"x", 0, api.ErrLong)
	wrong(t, x, 0, api.ErrForm)
	wrong(t, x[1:]+"\n", 1, api.ErrForm)
	line := "load 5 1\n"
	lines := strings.Repeat(line, 5000)
	back(t, lines, slices.Repeat([]api.TrEvent{load(5)}, 5000))
	wrong(t, lines+line, 0, api.ErrLong)
	wrong(t, "x\n"+lines, 0, api.ErrLong)
	wrong(t, lines+line+"x", 0, api.ErrForm)
	wrong(t, lines[len(line):]+"x\n", 5000, api.ErrForm)
	wrong(t, strings.Repeat("\n", most), 0, api.ErrLong)
}

// TestParseSteps has as many steps as a trace may have, and one more, after ErrRange and before lines that could be joined (P6.4).
func TestParseSteps(t *testing.T) {
	most := strings.Repeat("load 0 65536\n", 127) + "store 0 65526\nload 0 10\n"
	l, line, e := trace.Parse(most)
	if len(l) != 1<<23 || l[1<<23-1] != load(9) || line != 0 || e != api.OK {
		t.Errorf("2^23 steps: %d, %d, %d", len(l), line, e)
	}
	if s, e := trace.Print(l); s != most || e != api.OK {
		t.Errorf("2^23 steps are printed as %.60q, %d", s, e)
	}
	wrong(t, most+"load 0 1\n", 130, api.ErrLong)
	wrong(t, most+"load 10 1\n", 130, api.ErrLong)
	wrong(t, most+"load 10 65536\n", 130, api.ErrRange)
	wrong(t, most+"load 10 0\n", 130, api.ErrRange)
	wrong(t, most+"load\n", 130, api.ErrForm)
	wrong(t, strings.Repeat("load 0 65536\n", 5000), 129, api.ErrLong)
}

// TestBack prints and parses random traces (P6.4, P6.5).
func TestBack(t *testing.T) {
	r := rand.New(rand.NewSource(65))
	seen := map[string]string{}
	for range 3000 {
		l := someTrace(r, 1+r.Intn(20))
		s, e := trace.Print(l)
		if s != printModel(l) || e != api.OK {
			t.Fatalf("Print(%v): %q, %d", l, s, e)
		}
		back(t, s, l)
		// One trace has one string, and one string is of one trace.
		key := fmt.Sprint(l)
		if before, ok := seen[s]; ok && before != key {
			t.Fatalf("%q is of %s and of %s", s, before, key)
		}
		seen[s] = key
	}
	for range 3000 {
		l := anyTrace(r)
		before := slices.Clone(l)
		_, want := checkModel(l, 65536)
		if _, e := trace.Print(l); e != want {
			t.Fatalf("Print(%v): %d; want %d", l, e, want)
		}
		if !slices.Equal(l, before) {
			t.Fatal("Print changed its argument")
		}
	}
}

// TestParseAny has texts of random parts (P6.4, P6.5, P6.8).
func TestParseAny(t *testing.T) {
	r := rand.New(rand.NewSource(66))
	pieces := []string{"load", "store", "load", "store", " ", "\n", "x", "0", "-", ""}
	numbers := []string{"0", "1", "2", "3", "65535", "65536", "1000000000", "1000000001", "01", "7"}
	for range 6000 {
		s := ""
		for range r.Intn(5) {
			s += pieces[r.Intn(2)] + " " + numbers[r.Intn(10-6*r.Intn(2))] + " " + numbers[r.Intn(10-6*r.Intn(2))] + "\n"
		}
		if r.Intn(3) == 0 {
			i := r.Intn(len(s) + 1)
			s = s[:i] + pieces[r.Intn(len(pieces))] + s[min(i+r.Intn(2), len(s)):]
		}
		want, line, e := parseModel(s)
		l, n, f := trace.Parse(s)
		if !slices.Equal(l, want) || n != line || f != e {
			t.Fatalf("Parse(%q): %d steps, %d, %d; want %d steps, %d, %d", s, len(l), n, f, len(want), line, e)
		}
		if e == api.OK && len(l) < 200 {
			print(t, l, s, api.OK)
		}
	}
}

// TestParseIsNew writes into a result (P6.8, R3).
func TestParseIsNew(t *testing.T) {
	const s = "load 5 2\nstore 6 1\nstore 6 1\nload 7 1\n"
	a, _, _ := trace.Parse(s)
	b, _, _ := trace.Parse(s)
	for i := range a[:cap(a)] {
		a[:cap(a)][i] = load(99)
	}
	if !slices.Equal(b, sample()) {
		t.Errorf("two results share memory: %v", b)
	}
	p, _ := trace.Parts(b, nil)
	q, _ := trace.Parts(b, nil)
	p[0] = 77
	if q[0] != 5 {
		t.Errorf("two parts share memory: %v", q)
	}
}
