package arena

import (
	"slices"
	"strings"

	"dragnet/api"
	"dragnet/words"
)

// wanted is the name of a region that is looked for.
type wanted string

// is returns whether a region has this name.
func (w wanted) is(r api.ArRegion) bool {
	return r.Name == string(w)
}

// Region adds a region after the last one, and returns its base.
func (a *Arena) Region(name string, size int) (base int, e api.Errno) {
	if !a.valid() {
		return 0, api.ErrNil
	}
	if e := a.refused(name, size); e != api.OK {
		return 0, e
	}
	base = a.end()
	a.regions = append(a.regions, fresh(api.ArRegion{Name: name, Base: base, Size: size}))
	return base, api.OK
}

// refused returns why there may be no region of this name and size, or OK.
func (a *Arena) refused(name string, size int) api.Errno {
	switch {
	case !words.Name(name):
		return api.ErrForm
	case size < 1:
		return api.ErrRange
	case a.index(name) >= 0:
		return api.ErrTwice
	case len(a.regions) >= api.MaxRegions:
		return api.ErrLong
	case size > len(a.cells)-a.end():
		return api.ErrFull
	}
	return api.OK
}

// end returns where the last region ends.
func (a *Arena) end() int {
	if len(a.regions) == 0 {
		return 0
	}
	last := a.regions[len(a.regions)-1]
	return last.Base + last.Size
}

// index returns the index of the region with a name, or -1.
func (a *Arena) index(name string) int {
	return slices.IndexFunc(a.regions, wanted(name).is)
}

// Find returns the region with a name.
func (a *Arena) Find(name string) (api.ArRegion, api.Errno) {
	if !a.valid() {
		return api.ArRegion{}, api.ErrNil
	}
	at := a.index(name)
	if at < 0 {
		return api.ArRegion{}, api.ErrNone
	}
	return fresh(a.regions[at]), api.OK
}

// Regions returns all regions, in order.
func (a *Arena) Regions() []api.ArRegion {
	if !a.valid() {
		return nil
	}
	var l []api.ArRegion
	for _, r := range a.regions {
		l = append(l, fresh(r))
	}
	return l
}

// fresh returns the region with memory of its own for its name.
func fresh(r api.ArRegion) api.ArRegion {
	r.Name = strings.Clone(r.Name)
	return r
}
