package orbit

import (
	"iter"
	"slices"
)

// after is what the pattern is after n generations.
func (l law) after(first pattern, n int) pattern {
	if n < 0 || n > maxAfter {
		giveUp(ErrRange, 0)
	}
	reached := l.reach(first, n)
	if reached.isFar() {
		giveUp(ErrFar, 0)
	}
	return reached
}

// reach goes step by step where that is near enough: the pattern need not
// come back then.
func (l law) reach(first pattern, n int) pattern {
	if n > maxSteps {
		return l.follow(first).at(n)
	}
	reached := first
	for i, now := range l.generations(first) {
		if i == n {
			reached = now
			break
		}
	}
	return reached
}

// generations gives out generation 0, 1, 2 and so on up to maxSteps, each with
// its number. None is made ahead of its time: one with too many cells is no
// fault of those who stop ahead of it.
func (l law) generations(first pattern) iter.Seq2[int, pattern] {
	return func(yield func(int, pattern) bool) {
		now, counts := first, map[cell]int{}
		for n := range maxSteps + 1 {
			if n > 0 {
				now = l.next(now, counts)
			}
			if !yield(n, now) {
				return
			}
		}
	}
}

// next gives up if the next generation has too many cells. What counts holds
// is of no matter: it is handed in so that its memory is used again.
func (l law) next(now pattern, counts map[cell]int) pattern {
	countNeighbours(now, counts)
	var next pattern
	for c, n := range counts {
		if l.lives(now.has(c), n) {
			next = append(next, c)
		}
	}
	if len(next) > maxCells {
		giveUp(ErrCells, 0)
	}
	slices.SortFunc(next, cell.compare)
	return next
}

// countNeighbours counts for every cell that lives or has a living neighbour.
func countNeighbours(p pattern, counts map[cell]int) {
	clear(counts)
	for c := range p.cells() {
		counts[c] += 0 // one without neighbours may be kept alive
		for near := range c.neighbours() {
			counts[near]++
		}
	}
}
