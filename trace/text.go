package trace

import (
	"iter"
	"strings"

	"dragnet/api"
	"dragnet/words"
)

// Words of the kinds of steps in texts.
const (
	loadWord  = "load"
	storeWord = "store"
)

// run is steps of one kind, whose addresses ascend by 1: the first address, and how many they are.
type run struct{ kind, at, n int }

// joins returns whether a run goes on where the one before it ends.
func (r run) joins(before run) bool {
	return r.kind == before.kind && r.at == before.at+before.n
}

// runs yields the runs of a trace, each as long as possible.
func runs(l []api.TrEvent) iter.Seq[run] {
	return func(yield func(run) bool) {
		for rest := l; len(rest) > 0; {
			r := firstRun(rest)
			if !yield(r) {
				return
			}
			rest = rest[r.n:]
		}
	}
}

// firstRun returns the run with which a trace begins; it has at least one step.
func firstRun(l []api.TrEvent) run {
	r := run{int(l[0].Kind), int(l[0].At), 1}
	for r.n < len(l) && l[r.n] == (api.TrEvent{Kind: l[0].Kind, At: l[0].At + int32(r.n)}) {
		r.n++
	}
	return r
}

// Print returns the text of a trace.
func Print(l []api.TrEvent) (string, api.Errno) {
	if _, e := Check(l, api.MaxCells); e != api.OK {
		return "", e
	}
	var text strings.Builder
	lines := 0
	for r := range runs(l) {
		if lines == api.MaxTextLines {
			return "", api.ErrLong
		}
		lines++
		text.WriteString(r.line())
	}
	return text.String(), api.OK
}

// line returns the line of a run.
func (r run) line() string {
	word := loadWord
	if r.kind == api.ArStore {
		word = storeWord
	}
	return word + " " + words.Digits(int64(r.at)) + " " + words.Digits(int64(r.n)) + "\n"
}

// Parse returns the trace of a text, or the number of its first line with an error; 0 if the error is of no line.
func Parse(s string) (l []api.TrEvent, line int, e api.Errno) {
	if _, e = words.Lines(s); e != api.OK {
		return nil, 0, e
	}
	var before run
reading:
	for rest := s; rest != ""; {
		var text string
		text, rest, _ = strings.Cut(rest, "\n")
		line++
		r, fault := parseRun(text)
		switch {
		case fault != api.OK:
			e = fault
			break reading
		case len(l)+r.n > api.MaxSteps:
			e = api.ErrLong
			break reading
		case r.joins(before):
			e = api.ErrForm
			break reading
		}
		l = r.steps(l)
		before = r
	}
	if e != api.OK {
		return nil, line, e
	}
	return l, 0, api.OK
}

// parseRun returns the run of a line without its end.
func parseRun(text string) (run, api.Errno) {
	// A fourth part, whatever it has, is one too many.
	parts := strings.SplitN(text, " ", 4)
	if len(parts) != 3 {
		return run{}, api.ErrForm
	}
	kind, ok := kindOf(parts[0])
	at, e := words.Int(parts[1], 0, api.MaxNumber)
	n, f := words.Int(parts[2], 0, api.MaxNumber)
	// A number that is too large is no number of a text either.
	if !ok || e != api.OK || f != api.OK {
		return run{}, api.ErrForm
	}
	if n == 0 || at+n > api.MaxCells {
		return run{}, api.ErrRange
	}
	return run{kind, int(at), int(n)}, api.OK
}

// kindOf returns the kind that a word of a text stands for.
func kindOf(word string) (kind int, ok bool) {
	switch word {
	case loadWord:
		return api.ArLoad, true
	case storeWord:
		return api.ArStore, true
	}
	return 0, false
}

// steps puts the steps of a run at the end of a list.
func (r run) steps(l []api.TrEvent) []api.TrEvent {
	for at := r.at; at < r.at+r.n; at++ {
		l = append(l, api.TrEvent{Kind: int32(r.kind), At: int32(at)})
	}
	return l
}
