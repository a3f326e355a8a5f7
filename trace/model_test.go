package trace_test

import (
	"fmt"
	"hash/fnv"
	"math/big"
	"math/rand"
	"regexp"
	"slices"
	"strings"

	"dragnet/api"
)

// load and store are steps.
func load(at int32) api.TrEvent  { return api.TrEvent{Kind: 1, At: at} }
func store(at int32) api.TrEvent { return api.TrEvent{Kind: 2, At: at} }

// sample is the chapter's trace T.
func sample() []api.TrEvent {
	return []api.TrEvent{load(5), load(6), store(6), store(6), load(7)}
}

// checkModel tells of each step whether it is one. It is for few steps.
func checkModel(l []api.TrEvent, cells int) (int, api.Errno) {
	if cells <= 0 || cells >= 65537 {
		return -1, api.ErrRange
	}
	for i := range l {
		if !slices.Contains([]int32{1, 2}, l[i].Kind) {
			return i, api.ErrArg
		}
		if int64(l[i].At) < 0 || int64(l[i].At) > int64(cells)-1 {
			return i, api.ErrRange
		}
	}
	return 0, api.OK
}

// differModel puts a step that no trace has after both.
func differModel(a, b []api.TrEvent) int {
	a = append(slices.Clone(a), api.TrEvent{Kind: 77})
	b = append(slices.Clone(b), api.TrEvent{Kind: 78})
	for i := range a {
		if i < len(b) && a[i].Kind == b[i].Kind && a[i].At == b[i].At {
			continue
		}
		if i == len(a)-1 && i == len(b)-1 {
			return -1
		}
		return i
	}
	return -2
}

// countModel counts the steps of a kind.
func countModel(l []api.TrEvent, kind int) int {
	n := 0
	for i := range l {
		if int(l[i].Kind) == kind {
			n++
		}
	}
	return n
}

// partsModel looks for each step in each region, and for each cell in each two regions. It is for small regions.
func partsModel(l []api.TrEvent, r []api.ArRegion) ([]int, api.Errno) {
	cell := func(x api.ArRegion, at int) bool { return at >= x.Base && at <= x.Base+x.Size-1 }
	for _, x := range r {
		end := new(big.Int).Add(big.NewInt(int64(x.Base)), big.NewInt(int64(x.Size)))
		if x.Base < 0 || x.Size < 1 || end.Cmp(big.NewInt(65536)) > 0 {
			return nil, api.ErrRange
		}
	}
	for i, x := range r {
		for _, y := range r[:i] {
			for at := x.Base; cell(x, at); at++ {
				if cell(y, at) {
					return nil, api.ErrForm
				}
			}
		}
	}
	out := make([]int, len(r)+1)
	for _, s := range l {
		i := slices.IndexFunc(r, func(x api.ArRegion) bool { return cell(x, int(s.At)) })
		if i < 0 {
			i = len(r)
		}
		out[i]++
	}
	return out, api.OK
}

// digestModel leaves the digest to the library.
func digestModel(l []api.TrEvent) uint64 {
	h := fnv.New64a()
	for _, s := range l {
		h.Write([]byte{byte(s.Kind), byte(s.At), byte(s.At >> 8), byte(s.At >> 16), byte(s.At >> 24)})
	}
	return h.Sum64()
}

// printModel writes a good trace of any length.
func printModel(l []api.TrEvent) string {
	text, n := "", 0
	for i, s := range l {
		n++
		if i+1 == len(l) || l[i+1].Kind != s.Kind || l[i+1].At != s.At+1 {
			text += fmt.Sprintf("%s %d %d\n", map[int32]string{1: "load", 2: "store"}[s.Kind], int(s.At)-n+1, n)
			n = 0
		}
	}
	return text
}

// lineForm is what a line may look like.
var lineForm = regexp.MustCompile(`^(load|store) (0|[1-9][0-9]*) (0|[1-9][0-9]*)$`)

// parseModel reads a text of few steps.
func parseModel(s string) ([]api.TrEvent, int, api.Errno) {
	lines := strings.Split(s, "\n")
	if lines[len(lines)-1] != "" {
		return nil, 0, api.ErrForm
	}
	var l []api.TrEvent
	for i, line := range lines[:len(lines)-1] {
		m := lineForm.FindStringSubmatch(line)
		if m == nil {
			return nil, i + 1, api.ErrForm
		}
		most := big.NewInt(1000000000)
		at, _ := new(big.Int).SetString(m[2], 10)
		n, _ := new(big.Int).SetString(m[3], 10)
		if at.Cmp(most) > 0 || n.Cmp(most) > 0 {
			return nil, i + 1, api.ErrForm
		}
		if n.Sign() == 0 || at.Int64()+n.Int64()-1 > 65535 {
			return nil, i + 1, api.ErrRange
		}
		kind := int32(map[string]int{"load": 1, "store": 2}[m[1]])
		for j := range n.Int64() {
			now := api.TrEvent{Kind: kind, At: int32(at.Int64() + j)}
			if j == 0 && len(l) > 0 && l[len(l)-1] == (api.TrEvent{Kind: kind, At: now.At - 1}) {
				return nil, i + 1, api.ErrForm
			}
			l = append(l, now)
		}
	}
	return l, 0, api.OK
}

// someTrace returns a good trace with runs, for so many cells.
func someTrace(r *rand.Rand, cells int) []api.TrEvent {
	var l []api.TrEvent
	for range r.Intn(8) {
		s := api.TrEvent{Kind: int32(1 + r.Intn(2)), At: int32(r.Intn(cells))}
		for range 1 + r.Intn(4) {
			if int(s.At) < cells {
				l = append(l, s)
			}
			s.At++
		}
	}
	return l
}

// anyTrace returns steps of which some are none.
func anyTrace(r *rand.Rand) []api.TrEvent {
	l := someTrace(r, 12)
	kinds := []int32{0, 3, -1, 257, 1 << 30, -1 << 31}
	ats := []int32{-1, 12, 65535, 65536, 1<<31 - 1, -1 << 31}
	for range r.Intn(3) {
		if len(l) == 0 {
			break
		}
		if i := r.Intn(len(l)); r.Intn(2) == 0 {
			l[i].Kind = kinds[r.Intn(len(kinds))]
		} else {
			l[i].At = ats[r.Intn(len(ats))]
		}
	}
	return l
}
