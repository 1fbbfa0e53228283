package stack

import "slices"

// pile is a list of items that grows and shrinks at its end.
type pile[T any] struct {
	items []T
}

func (p *pile[T]) size() int {
	return len(p.items)
}

// reaches reports whether a pile has a position n, from its start or from its end; the position behind the last item is one too.
func (p *pile[T]) reaches(n int) bool {
	return n >= 0 && n <= len(p.items)
}

func (p *pile[T]) add(l []T) {
	p.items = append(p.items, l...)
}

// copyFrom returns new memory, because later items take the places of those that have been cut off.
func (p *pile[T]) copyFrom(start int) []T {
	return slices.Clone(p.items[start:])
}

func (p *pile[T]) cutFrom(start int) []T {
	removed := p.copyFrom(start)
	p.items = p.items[:start]
	return removed
}
