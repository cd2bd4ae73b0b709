package learn

import "thicket/api"

// places are heaps of rows that are to be split, each by itself, where a tree grows.
type places struct {
	rests []int64
	of    []int32 // by row: the number of its place, nowhere if it has none
	nodes []int   // by place: the number of its node
	whole []heap  // by place: its rows
	least int     // rows on either side of a split
}

const nowhere = -1

func (p places) unsplit() []split {
	l := make([]split, len(p.whole))
	for place, h := range p.whole {
		l[place] = noSplit(h)
	}
	return l
}

// search looks for the best split of each place, feature by feature.
type search struct {
	places
	best []split
	met  []progress // by place
}

// progress is how far a place's rows have been gone through by rising number: those that were met and the last one's key; and those whose number is NaN.
type progress struct {
	below heap
	key   uint64
	lost  heap
}

func newSearch(p places) *search {
	return &search{places: p, best: p.unsplit(), met: make([]progress, len(p.whole))}
}

// look tries all splits by a feature. All places are gone through at one time, each row adding to its own.
func (s *search) look(feature int, c *column) {
	clear(s.met)
	for _, row := range c.lost {
		if place := s.of[row]; place != nowhere {
			m := &s.met[place]
			m.lost = m.lost.plus(heap{1, s.rests[row]})
		}
	}
	for i, row := range c.rows {
		place := s.of[row]
		if place == nowhere {
			continue
		}
		m := &s.met[place]
		if m.key != c.keys[i] {
			s.offer(feature, int(place))
		}
		m.below, m.key = m.below.plus(heap{1, s.rests[row]}), c.keys[i]
	}
	for place := range s.met {
		s.offer(feature, place)
	}
}

// offer tries the splits of a place at the last number that was met. Where no number is NaN, both sides are one split, and left comes first.
func (s *search) offer(feature, place int) {
	m := &s.met[place]
	if m.below.many == 0 {
		return
	}
	c := split{feature: feature, threshold: m.key, missing: api.SideLeft, left: m.below.plus(m.lost), whole: s.whole[place]}
	s.take(place, c)
	if m.lost.many > 0 {
		c.missing, c.left = api.SideRight, m.below
		s.take(place, c)
	}
}

// take keeps a split, if it may be and is better than those ahead of it.
func (s *search) take(place int, c split) {
	if c.left.many < s.least || c.right().many < s.least {
		return
	}
	c.floor = c.left.floor().plus(c.right().floor())
	if c.ahead(s.best[place]) {
		s.best[place] = c
	}
}
