// Package alike looks for what a new image has in common with an old one.
package alike

import "firmware/layout"

// Find sends the parts that next is made of, in their order, and closes the channel. They are those that take the fewest bytes of a patch.
func Find(old, next []byte, found chan<- layout.Part) {
	defer close(found)
	first := plan(old, next)
	for at := 0; at < len(next); at += first[at].Size {
		found <- first[at]
	}
}

// choices has, for each place of the new image, the part that is best there, and how many bytes all from there on take.
type choices struct {
	first []layout.Part
	cost  []int
	far   int // where a long fresh part ends best
}

// plan tells for each place of next which part is best there. It goes from the end on, for what is best at a place hangs on all behind it.
func plan(old, next []byte) []layout.Part {
	c := &choices{first: make([]layout.Part, len(next)), cost: make([]int, len(next)+1), far: len(next)}
	x := newIndex(old)
	for at := len(next) - 1; at >= 0; at-- {
		c.offerFresh(at)
		c.offerOld(at, layout.Part{Kind: layout.Keep, Size: common(old[min(at, len(old)):], next[at:])})
		place, size := x.longest(next[at:])
		c.offerOld(at, layout.Part{Kind: layout.Copy, At: place, Size: size})
	}
	return c.first
}

// offerFresh offers the fresh parts from a place on. Of the long ones the same end is best for all places ahead, until a nearer one is better: so one of them is enough to look at.
func (c *choices) offerFresh(at int) {
	for size := 1; size <= min(layout.ShortSize, len(c.first)-at); size++ {
		c.offer(at, layout.Part{Kind: layout.Fresh, Size: size})
	}
	near := at + layout.ShortSize + 1
	if near > len(c.first) {
		return
	}
	if near+c.cost[near] < c.far+c.cost[c.far] {
		c.far = near
	}
	c.offer(at, layout.Part{Kind: layout.Fresh, Size: c.far - at})
}

// offerOld offers a part of the old image. Shorter ones need no look but where the size takes a byte less: what is left behind a longer one never takes more bytes.
func (c *choices) offerOld(at int, part layout.Part) {
	if part.Size == 0 {
		return
	}
	c.offer(at, part)
	part.Size = min(part.Size, layout.ShortSize)
	c.offer(at, part)
}

// offer takes a part if it is better than what is there, or if there is none yet.
func (c *choices) offer(at int, part layout.Part) {
	cost := layout.Cost(part.Kind, part.Size) + c.cost[at+part.Size]
	if c.first[at].Size == 0 || cost < c.cost[at] {
		c.first[at], c.cost[at] = part, cost
	}
}
