package fold

import (
	"iter"

	"dragnet/api"
)

// Find returns the least index of a text at which a part begins that is alike to s.
func Find(text, s string) (int, api.Errno) {
	if tooLong(text, s) {
		return 0, api.ErrLong
	}
	for at := range places(text, s) {
		return at, api.OK
	}
	return 0, api.ErrNone
}

// All returns all indices of a text at which a part begins that is alike to s, ascending.
func All(text, s string) ([]int, api.Errno) {
	if tooLong(text, s) {
		return nil, api.ErrLong
	}
	var l []int
	for at := range places(text, s) {
		l = append(l, at)
	}
	return l, api.OK
}

// tooLong returns whether the text, or what is looked for in it, is longer than its limit.
func tooLong(text, s string) bool {
	return len(s) > api.MaxFold || len(text) > api.MaxFoldText
}

// places yields the indices at which a part of the text begins that is alike to s, ascending.
func places(text, s string) iter.Seq[int] {
	return func(yield func(int) bool) {
		// In a text that is shorter than s there is no index at all.
		for at := range len(text) - len(s) + 1 {
			if Alike(text[at:at+len(s)], s) && !yield(at) {
				return
			}
		}
	}
}
