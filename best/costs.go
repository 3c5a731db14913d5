package best

import (
	"gladstone/api"
	"gladstone/slots"
	"gladstone/token"
)

// costs is what all tokens cost, their extra bits too: a copy what its length and its distance cost.
type costs struct {
	literal [256]int
	length  [api.MaxLen + 1]int
	repeat  [4][api.MaxLen + 1]int
	dist    []int
}

func newCosts(p api.Prices) *costs {
	c := &costs{}
	copy(c.literal[:], p.Main)
	for n := api.MinLen; n <= api.MaxLen; n++ {
		c.length[n] = ofLength(p, api.Token{Kind: api.Copy, Len: n, Dist: 1})
		for rep := range c.repeat {
			c.repeat[rep][n] = ofLength(p, api.Token{Kind: api.Repeat, Len: n, Rep: rep})
		}
	}
	for slot := range p.Dist {
		d, _ := slots.DistOf(slot, 0)
		_, extra, _, _ := slots.Dist(d)
		c.dist = append(c.dist, p.Dist[slot]+extra)
	}
	return c
}

func ofLength(p api.Prices, t api.Token) int {
	sym, _ := token.Sym(t)
	_, extra, _, _ := slots.Len(t.Len)
	return p.Main[sym] + extra
}

// of is what a distance costs.
func (c *costs) of(d int) int {
	slot, _, _, _ := slots.Dist(d)
	return c.dist[slot]
}

// gap is how much more a copy costs than a repeat of that distance at most, ahead of what the distance costs.
func (c *costs) gap() int {
	most := c.length[api.MinLen] - c.repeat[0][api.MinLen]
	for n := api.MinLen; n <= api.MaxLen; n++ {
		for rep := range c.repeat {
			most = max(most, c.length[n]-c.repeat[rep][n])
		}
	}
	return most
}

// again is the least that a repeat of n bytes costs.
func (c *costs) again(n int) int {
	least := c.repeat[0][n]
	for rep := range c.repeat {
		least = min(least, c.repeat[rep][n])
	}
	return least
}
