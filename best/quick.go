package best

import (
	"slices"

	"gladstone/api"
	"gladstone/far"
	"gladstone/near"
	"gladstone/reps"
	"gladstone/token"
)

// longEnough is a match in which no other ones are looked for.
const longEnough = 128

// way is the one way to each place of a block.
type way struct {
	hist, block string
	window      int
	costs       *costs
	steps       []step[api.Reps]
}

// quick goes along once. A literal is tried at each place, so that all never costs more than literals.
func quick(hist, block string, r api.Reps, c *costs, window int) ([]api.Token, int) {
	w := &way{hist, block, window, c, make([]step[api.Reps], len(block)+1)}
	for i := range w.steps {
		w.steps[i].cost = -1
	}
	w.steps[0] = step[api.Reps]{state: r}
	tail := far.Tail(hist, len(block))
	ends := near.New(hist[len(hist)-tail:] + block)
	var behind *far.Finder
	if tail < len(hist) {
		behind = far.New(hist, block)
	}
	inside := 0 // up to here a long match goes
	for i := range len(block) {
		w.settle(i)
		w.offer(i, api.Token{Byte: int(block[i])}, c.literal[block[i]])
		if i < inside {
			continue
		}
		longest := w.repeats(i)
		longest = max(longest, w.copies(i, append(ends.At(tail+i, window, api.MaxLen), behind.At(i, window))))
		if longest >= longEnough {
			inside = i + longest
		}
	}
	return w.tokens(), w.steps[len(block)].cost
}

// settle works out the last four distances of a place that no cheaper way comes to any more.
func (w *way) settle(i int) {
	if i > 0 {
		s := &w.steps[i]
		s.state, _, _ = reps.Use(w.steps[i-token.Size(s.token)].state, s.token)
	}
}

// offer takes a token at place i, if it comes cheaper to where it ends.
func (w *way) offer(i int, t api.Token, cost int) {
	to := &w.steps[i+max(1, t.Len)]
	if cost += w.steps[i].cost; to.cost < 0 || cost < to.cost {
		to.cost, to.token = cost, t
	}
}

// repeats offers all repeats at place i, and tells how long the longest is.
func (w *way) repeats(i int) int {
	longest := 0
	for rep, d := range w.steps[i].state {
		if d > w.window {
			continue
		}
		most := far.Shared(w.hist, w.block, i, d)
		for n := api.MinLen; n <= most; n++ {
			w.offer(i, api.Token{Kind: api.Repeat, Len: n, Rep: rep}, w.costs.repeat[rep][n])
		}
		longest = max(longest, most)
	}
	return longest
}

// copies offers copies at place i, of each length by the first match that is as long, and tells how long the longest is.
func (w *way) copies(i int, matches []api.Match) int {
	longest := api.MinLen - 1
	for _, m := range matches {
		for n := longest + 1; n <= m.Len; n++ {
			w.offer(i, api.Token{Kind: api.Copy, Len: n, Dist: m.Dist}, w.costs.length[n]+w.costs.of(m.Dist))
		}
		longest = max(longest, m.Len)
	}
	return longest
}

// tokens is the way to the end.
func (w *way) tokens() []api.Token {
	var out []api.Token
	for i := len(w.block); i > 0; i -= token.Size(w.steps[i].token) {
		out = append(out, w.steps[i].token)
	}
	slices.Reverse(out)
	return out
}
