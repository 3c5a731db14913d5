package best

import (
	"cmp"
	"slices"

	"gladstone/api"
	"gladstone/near"
	"gladstone/token"
)

// longest tells how long a source of a place of the block is at most.
func longest(hist, block string, window int) func(i int) int {
	if len(hist) > mostClose {
		return func(i int) int { return min(api.MaxLen, len(block)-i) }
	}
	ends := near.New(hist + block)
	return func(i int) int {
		if l := ends.At(len(hist)+i, window, api.MaxLen); len(l) > 0 {
			return l[len(l)-1].Len
		}
		return 0
	}
}

// loose is what block costs at least, each source counting as one of the last four distances, or as the cheapest distance: it is known at once, and often enough.
func loose(block string, c *costs, longest func(i int) int) int {
	dist := slices.Min(c.dist)
	least := make([]int, len(block)+1)
	for i := len(block) - 1; i >= 0; i-- {
		least[i] = c.literal[block[i]] + least[i+1]
		for n := longest(i); n >= api.MinLen; n-- {
			least[i] = min(least[i], min(c.again(n), c.length[n]+dist)+least[i+n])
		}
	}
	return least[0]
}

// span is the first and the last place of the block at which a distance is a source.
type span struct{ first, last int }

// search goes over all ways, but those that can't come to be cheaper than one that is known.
type search struct {
	text   string // hist, and block
	base   int    // where the block begins
	reps   api.Reps
	window int
	costs  *costs
	gap    int
	ahead  []int32      // of each place of the text the one ahead that begins with the same two bytes, from 1 on; 0: none
	spans  map[int]span // of the distances that are sources somewhere
	least  []int        // of each place of the block what all from there on costs at least
	places []reached[api.Reps]
	cut    bool // whether states were left out because there were too many
}

func newSearch(hist, block string, r api.Reps, c *costs, window int) *search {
	s := &search{text: hist + block, base: len(hist), window: window, costs: c, gap: c.gap(), spans: map[int]span{}}
	s.ahead = twos(s.text)
	s.reps = r
	s.places = make([]reached[api.Reps], len(block)+1)
	for i := range len(block) {
		s.sources(i, func(d int) {
			was, ok := s.spans[d]
			if !ok {
				was.first = i
			}
			was.last = i
			s.spans[d] = was
		})
	}
	s.least = s.atLeast(r)
	return s
}

// twos is of each place the one ahead that begins with the same two bytes; places count from 1 on.
func twos(text string) []int32 {
	last := make([]int32, 1<<16)
	out := make([]int32, len(text))
	for i := 0; i+1 < len(text); i++ {
		two := int(text[i])<<8 + int(text[i+1])
		out[i] = last[two]
		last[two] = int32(i + 1)
	}
	return out
}

// sources tells all distances from which two bytes or more come again at place i of the block, rising.
func (s *search) sources(i int, tell func(d int)) {
	at := s.base + i
	for k := int(s.ahead[at]) - 1; k >= 0 && at-k <= s.window; k = int(s.ahead[k]) - 1 {
		tell(at - k)
	}
}

// length is how many bytes come again from d back at place i of the block.
func (s *search) length(i, d int) int {
	now := s.text[s.base+i:]
	old := s.text[s.base+i-d:]
	n := 0
	for n < len(now) && n < api.MaxLen && now[n] == old[n] {
		n++
	}
	return n
}

// atLeast is of each place what all from there on costs at least: each distance counts as one of the last four, as soon as it may be.
func (s *search) atLeast(r api.Reps) []int {
	least := make([]int, len(s.places))
	for i := len(least) - 2; i >= 0; i-- {
		least[i] = s.costs.literal[s.text[s.base+i]] + least[i+1]
		var dist [api.MaxLen + 2]int // of each length what its cheapest distance costs; 0: there is none
		again := 0                   // how long a repeat is at most
		s.sources(i, func(d int) {
			n, cost := s.length(i, d), s.costs.of(d)
			if dist[n] == 0 || cost < dist[n] {
				dist[n] = cost
			}
			if s.spans[d].first+api.MinLen <= i || slices.Contains(r[:], d) {
				again = max(again, n)
			}
		})
		for n := api.MaxLen; n >= api.MinLen; n-- {
			if longer := dist[n+1]; longer > 0 && (dist[n] == 0 || longer < dist[n]) {
				dist[n] = longer
			}
			if dist[n] > 0 {
				least[i] = min(least[i], s.costs.length[n]+dist[n]+least[i+n])
			}
			if n <= again {
				least[i] = min(least[i], s.costs.again(n)+least[i+n])
			}
		}
	}
	return least
}

// alive is the last four distances, those that are no source from place i on as 0: they are all the same.
func (s *search) alive(r api.Reps, i int) api.Reps {
	for k, d := range r {
		if was, ok := s.spans[d]; !ok || was.last < i {
			r[k] = 0
		}
	}
	return r
}

// below is the cheapest tokens that cost less than most, and what they cost, going on from the width cheapest states of each place; none, if there are none.
func (s *search) below(most, width int) ([]api.Token, int) {
	end := len(s.places) - 1
	clear(s.places)
	s.cut = false
	s.places[0].offer(step[api.Reps]{state: s.alive(s.reps, 0)})
	for i := range end {
		s.places[i].index = nil
		on := s.worthy(i)
		s.cut = s.cut || len(on) > width
		for _, k := range on[:min(len(on), width)] {
			s.extend(i, k, most)
		}
	}
	best := -1
	for k, t := range s.places[end].steps {
		if t.cost < most {
			best, most = k, t.cost
		}
	}
	if best < 0 {
		return nil, 0
	}
	return s.tokens(end, best), most
}

// mostHeld is against how many cheaper states each one is held.
const mostHeld = 64

// worthy is the steps of a place that are to be gone on from, the cheapest first. A state is left out, if a cheaper one can do all that it can: each of its distances then takes a copy once, in the place of a repeat.
func (s *search) worthy(i int) []int {
	steps := s.places[i].steps
	order := make([]int, len(steps))
	for k := range order {
		order[k] = k
	}
	slices.SortStableFunc(order, func(a, b int) int { return cmp.Compare(steps[a].cost, steps[b].cost) })
	var out []int
	for _, k := range order {
		held := out[:min(len(out), mostHeld)]
		if !slices.ContainsFunc(held, func(a int) bool { return steps[a].cost+s.lack(steps[a].state, steps[k].state) <= steps[k].cost }) {
			out = append(out, k)
		}
	}
	return out
}

// lack is how much more it may cost to go on from a in the place of b.
func (s *search) lack(a, b api.Reps) int {
	k, cost := 0, 0
	for k < len(a) && a[k] == b[k] {
		k++
	}
	for _, d := range b[k:] {
		if d > 0 {
			cost += max(0, s.gap+s.costs.of(d))
		}
	}
	return cost
}

// extend offers all that goes on from a step, if it may come to be less than most.
func (s *search) extend(i, from, most int) {
	was := s.places[i].steps[from]
	offer := func(t api.Token, n, cost int, r api.Reps) {
		if cost += was.cost; cost+s.least[i+n] < most {
			s.places[i+n].offer(step[api.Reps]{s.alive(r, i+n), cost, t, from})
		}
	}
	b := s.text[s.base+i]
	offer(api.Token{Byte: int(b)}, 1, s.costs.literal[b], was.state)
	for rep, d := range was.state {
		if d == 0 {
			continue
		}
		now := was.state
		copy(now[1:], was.state[:rep])
		now[0] = d
		for n := s.lengthOf(i, d); n >= api.MinLen; n-- {
			offer(api.Token{Kind: api.Repeat, Len: n, Rep: rep}, n, s.costs.repeat[rep][n], now)
		}
	}
	r := was.state
	s.sources(i, func(d int) {
		dist := s.costs.of(d)
		for n := s.length(i, d); n >= api.MinLen; n-- {
			offer(api.Token{Kind: api.Copy, Len: n, Dist: d}, n, s.costs.length[n]+dist, api.Reps{d, r[0], r[1], r[2]})
		}
	})
}

// lengthOf is length, and 0 of a distance that is farther back than anything.
func (s *search) lengthOf(i, d int) int {
	if d > s.base+i {
		return 0
	}
	return s.length(i, d)
}

// tokens is the way to a step.
func (s *search) tokens(i, k int) []api.Token {
	var out []api.Token
	for i > 0 {
		t := s.places[i].steps[k]
		out = append(out, t.token)
		i, k = i-token.Size(t.token), t.from
	}
	slices.Reverse(out)
	return out
}
