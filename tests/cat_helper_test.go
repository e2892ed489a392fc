package tests

import (
	"math/rand"
	"slices"

	"loop.example/g01373/impl"
)

// apart tells how much two numbers differ.
func apart(a int, b int) int {
	return max(a-b, b-a)
}

// plainJump tells whether a cat makes a jump between boards that there are.
func plainJump(heights []int, reach int, climb int, from int, to int) bool {
	return to > from && to-from <= reach && apart(heights[from], heights[to]) <= climb
}

// listsBetween returns all increasing lists from one board to another one, in order.
func listsBetween(from int, to int) [][]int {
	if from == to {
		return [][]int{{to}}
	}
	var lists [][]int
	for next := from + 1; next <= to; next++ {
		for _, rest := range listsBetween(next, to) {
			lists = append(lists, append([]int{from}, rest...))
		}
	}
	return lists
}

// plainWays returns all ways in order.
func plainWays(heights []int, reach int, climb int) [][]int {
	return slices.DeleteFunc(listsBetween(0, len(heights)-1), func(list []int) bool {
		return !plainIsWay(heights, reach, climb, list)
	})
}

// plainIsWay looks at a list of any numbers: first at its boards, then at its jumps.
func plainIsWay(heights []int, reach int, climb int, way []int) bool {
	isNone := func(board int) bool { return board < 0 || board > len(heights)-1 }
	if len(way) == 0 || slices.ContainsFunc(way, isNone) || way[0] != 0 || way[len(way)-1] != len(heights)-1 {
		return false
	}
	for i := range len(way) - 1 {
		if !plainJump(heights, reach, climb, way[i], way[i+1]) {
			return false
		}
	}
	return true
}

func plainClimb(heights []int, way []int) int {
	climb := 0
	for i := range len(way) - 1 {
		climb += apart(heights[way[i]], heights[way[i+1]])
	}
	return climb
}

// firstLeast returns the first one of some lists with the least cost.
func firstLeast(lists [][]int, costOf func(list []int) int) []int {
	best := lists[0]
	for _, list := range lists {
		if costOf(list) < costOf(best) {
			best = list
		}
	}
	return best
}

// firstBySuffixes goes from the right on: for each board it keeps the first one of the lists from it that cost the least, nil if there is none.
func firstBySuffixes(heights []int, reach int, climb int, costOf func(list []int) int) []int {
	last := len(heights) - 1
	lists := make([][]int, len(heights))
	lists[last] = []int{last}
	for board := last - 1; board >= 0; board-- {
		// The farthest ones come first here, so that the order of lists has to be looked at.
		for next := last; next > board; next-- {
			if lists[next] == nil || !plainJump(heights, reach, climb, board, next) {
				continue
			}
			list := append([]int{board}, lists[next]...)
			if lists[board] == nil || costOf(list) < costOf(lists[board]) || costOf(list) == costOf(lists[board]) && slices.Compare(list, lists[board]) < 0 {
				lists[board] = list
			}
		}
	}
	return lists[0]
}

// countFrom counts the ways from a board on.
func countFrom(heights []int, reach int, climb int) int {
	ways := make([]int, len(heights))
	for board := len(heights) - 1; board >= 0; board-- {
		if board == len(heights)-1 {
			ways[board] = 1
		}
		for next := range heights {
			if plainJump(heights, reach, climb, board, next) {
				ways[board] += ways[next]
			}
		}
	}
	return ways[0]
}

// plainReached marks boards until no more come, and never one that is closed.
func plainReached(heights []int, reach int, climb int, closed int) []int {
	reached := []int{0}
	for i := 0; i < len(reached); i++ {
		for next := range heights {
			if next != closed && !slices.Contains(reached, next) && plainJump(heights, reach, climb, reached[i], next) {
				reached = append(reached, next)
			}
		}
	}
	slices.Sort(reached)
	return reached
}

// plainNeeded closes each board between the first and the last one; it returns nil if there is no way anyway.
func plainNeeded(heights []int, reach int, climb int) []int {
	last := len(heights) - 1
	if !slices.Contains(plainReached(heights, reach, climb, -1), last) {
		return nil
	}
	var needed []int
	for board := range heights {
		if board == 0 || board == last || !slices.Contains(plainReached(heights, reach, climb, board), last) {
			needed = append(needed, board)
		}
	}
	return needed
}

// plainEasiest tries each climb.
func plainEasiest(heights []int, reach int) int {
	climb := 0
	for !slices.Contains(plainReached(heights, reach, climb, -1), len(heights)-1) {
		climb++
	}
	return climb
}

// plainDown goes from lists of one board to longer ones: for each board it keeps the first one that begins there.
func plainDown(heights []int, reach int) []int {
	lists := map[int][]int{}
	for board := range heights {
		lists[board] = []int{board}
	}
	for {
		longer := map[int][]int{}
		for board := range heights {
			for next, list := range lists {
				if next <= board || next > board+reach || heights[next] >= heights[board] {
					continue
				}
				found := append([]int{board}, list...)
				if longer[board] == nil || slices.Compare(found, longer[board]) < 0 {
					longer[board] = found
				}
			}
		}
		if len(longer) == 0 {
			break
		}
		lists = longer
	}
	var first []int
	for _, list := range lists {
		if first == nil || slices.Compare(list, first) < 0 {
			first = list
		}
	}
	return first
}

// plainBeside returns the boards that are higher than each one beside them, or lower if side is -1.
func plainBeside(heights []int, side int) []int {
	var found []int
	for board, height := range heights {
		beside := slices.Clone(heights[max(board-1, 0):board])
		if board+1 < len(heights) {
			beside = append(beside, heights[board+1])
		}
		if !slices.ContainsFunc(beside, func(other int) bool { return (height-other)*side <= 0 }) {
			found = append(found, board)
		}
	}
	return found
}

// plainSeen goes away from a board to both sides and keeps the highest one that is behind.
func plainSeen(heights []int, board int) []int {
	var seen []int
	for _, step := range []int{-1, 1} {
		highest := -1
		for other := board + step; other >= 0 && other < len(heights); other += step {
			if highest < heights[board] && highest < heights[other] {
				seen = append(seen, other)
			}
			highest = max(highest, heights[other])
		}
	}
	slices.Sort(seen)
	return seen
}

// plainSeenFromLeft compares each board with each one to the left of it.
func plainSeenFromLeft(heights []int) []int {
	var seen []int
	for board, height := range heights {
		if !slices.ContainsFunc(heights[:board], func(other int) bool { return other >= height }) {
			seen = append(seen, board)
		}
	}
	return seen
}

// allHeights returns all heights of up to so many boards up to most.
func allHeights(boards int, most int) [][]int {
	var all [][]int
	for long := 1; long <= boards; long++ {
		all = append(all, allGrounds(long, most)...)
	}
	return all
}

// randomHeights returns heights that are much alike, or not, of few boards or many.
func randomHeights(r *rand.Rand, boards int) []int {
	heights := make([]int, boards)
	most := []int{1, 3, 10, impl.MaxTall}[r.Intn(4)]
	for board := range heights {
		heights[board] = r.Intn(most + 1)
	}
	return heights
}
