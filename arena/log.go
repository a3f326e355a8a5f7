package arena

import "dragnet/api"

// pageSteps is how many steps a page has: few enough for short traces, and enough that long ones have not many pages.
const pageSteps = 1 << 10

// page has steps that follow each other. It never grows, so a step that was logged is never moved.
type page [pageSteps]packed

// log is a trace: its steps, packed into pages.
type log struct {
	pages []*page
	made  int
}

// left returns how many steps may still be made.
func (l *log) left() int {
	return api.MaxSteps - l.made
}

// add puts a step at the end of the trace.
func (l *log) add(kind, at int) {
	if l.made == len(l.pages)*pageSteps {
		l.pages = append(l.pages, new(page))
	}
	l.pages[l.made/pageSteps][l.made%pageSteps] = pack(kind, at)
	l.made++
}

// from returns the steps of the trace from the given one on.
func (l *log) from(first int) []api.TrEvent {
	events := make([]api.TrEvent, l.made-first)
	for i := range events {
		n := first + i
		events[i] = l.pages[n/pageSteps][n%pageSteps].event()
	}
	return events
}

// packed is a step in one number: the address, and above it the kind, as no address needs more than 16 bits.
type packed uint32

const (
	addressBits = 16
	addressMask = 1<<addressBits - 1
)

// pack returns a step in one number.
func pack(kind, at int) packed {
	return packed(kind<<addressBits | at)
}

// event returns the step as the trace has it.
func (p packed) event() api.TrEvent {
	return api.TrEvent{Kind: int32(p >> addressBits), At: int32(p & addressMask)}
}
