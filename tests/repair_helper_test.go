package tests

import (
	"math"
	"math/bits"
	"math/rand"
	"slices"
	"strings"

	"loop.example/g01373/impl"
)

// plainYard reads a yard as a set of boards, the broken ones.
func plainYard(yard string) uint {
	var broken uint
	for board := range len(yard) {
		if yard[board] == 'x' {
			broken |= 1 << board
		}
	}
	return broken
}

// partsOfSet returns the first and the last board of all parts of a set, boards side by side, in order.
func partsOfSet(set uint) [][]int {
	var parts [][]int
	for board := range 64 {
		if set>>board&1 == 0 {
			continue
		}
		if board > 0 && set>>(board-1)&1 == 1 {
			parts[len(parts)-1][1] = board
		} else {
			parts = append(parts, []int{board, board})
		}
	}
	return parts
}

// fewestBySets has for each number of patches the least number of boards that at most so many of them cover, by all sets that have all broken boards in them.
func fewestBySets(yard string) []int {
	broken := plainYard(yard)
	fewest := times(len(yard)+1, math.MaxInt)
	for set := range uint(1) << len(yard) {
		if set&broken == broken {
			parts := len(partsOfSet(set))
			fewest[parts] = min(fewest[parts], bits.OnesCount(set))
		}
	}
	return upTo(fewest)
}

// upTo lets nothing be more than what is before it.
func upTo(fewest []int) []int {
	for i := 1; i < len(fewest); i++ {
		fewest[i] = min(fewest[i], fewest[i-1])
	}
	return fewest
}

// fewestBySteps has the same, and goes from board to board: each one is covered or not.
func fewestBySteps(yard string) []int {
	const never = 1000
	// Those whose last board is covered, and those whose last board is not.
	covered, bare := times(len(yard)+1, never), times(len(yard)+1, never)
	bare[0] = 0
	for board := range len(yard) {
		nextCovered, nextBare := times(len(yard)+1, never), times(len(yard)+1, never)
		for patches := range covered {
			nextCovered[patches] = covered[patches] + 1
			if patches > 0 {
				nextCovered[patches] = min(nextCovered[patches], bare[patches-1]+1)
			}
			if yard[board] == 'o' {
				nextBare[patches] = min(covered[patches], bare[patches])
			}
		}
		covered, bare = nextCovered, nextBare
	}
	for patches := range covered {
		covered[patches] = min(covered[patches], bare[patches])
	}
	return upTo(covered)
}

// plainGaps returns the gaps as sets of boards, from the left on.
func plainGaps(yard string) []uint {
	var gaps []uint
	broken := plainYard(yard)
	for board := range len(yard) {
		left, right := broken&(1<<board-1), broken>>board
		switch {
		case broken>>board&1 == 1 || left == 0 || right == 0:
		case broken>>(board-1)&1 == 1:
			gaps = append(gaps, 1<<board)
		default:
			gaps[len(gaps)-1] |= 1 << board
		}
	}
	return gaps
}

// plainFirstPatches takes the greatest gap out, the first one of several, as often as it can.
func plainFirstPatches(yard string, patches int) [][]int {
	gaps := plainGaps(yard)
	covered := plainYard(yard)
	for _, gap := range gaps {
		covered |= gap
	}
	for range min(patches-1, len(gaps)) {
		greatest := 0
		for i, gap := range gaps {
			if bits.OnesCount(gap) > bits.OnesCount(gaps[greatest]) {
				greatest = i
			}
		}
		covered &^= gaps[greatest]
		gaps[greatest] = 0
	}
	return partsOfSet(covered)
}

// plainPatchesForPrice covers those gaps alone that cost no more than a patch.
func plainPatchesForPrice(yard string, patch int, board int) [][]int {
	covered := plainYard(yard)
	for _, gap := range plainGaps(yard) {
		if bits.OnesCount(gap)*board <= patch {
			covered |= gap
		}
	}
	return partsOfSet(covered)
}

// plainPrice is the price of patches told as lists.
func plainPrice(patches [][]int, patch int, board int) int {
	price := 0
	for _, p := range patches {
		price += patch + (p[1]-p[0]+1)*board
	}
	return price
}

// plainFewestOfLength goes from the right on: each patch over a broken board may begin at it or before it.
func plainFewestOfLength(yard string, long int) int {
	fewest := make([]int, len(yard)+long+1)
	for board := len(yard) - 1; board >= 0; board-- {
		fewest[board] = fewest[board+1]
		if yard[board] == 'x' {
			fewest[board] = 1 + slices.Min(fewest[board+1:board+long+1])
		}
	}
	return fewest[0]
}

// plainStarts mends board after board until none is broken.
func plainStarts(yard string, long int) []int {
	var starts []int
	for strings.Contains(yard, "x") {
		start := strings.Index(yard, "x")
		starts = append(starts, start)
		for board := start; board < min(start+long, len(yard)); board++ {
			yard = yard[:board] + "o" + yard[board+1:]
		}
	}
	return starts
}

// plainCovering looks at each broken board for a patch over it.
func plainCovering(yard string, patches [][]int) bool {
	for _, p := range patches {
		if len(p) != 2 || p[0] < 0 || p[1] < p[0] || p[1] > len(yard)-1 {
			return false
		}
	}
	for board := range len(yard) {
		over := func(p []int) bool { return p[0] <= board && board <= p[1] }
		if yard[board] == 'x' && !slices.ContainsFunc(patches, over) {
			return false
		}
	}
	return true
}

// plainIdle leaves out each patch, one alone.
func plainIdle(yard string, patches [][]int) []int {
	var idle []int
	for i := range patches {
		if plainCovering(yard, slices.Delete(slices.Clone(patches), i, i+1)) {
			idle = append(idle, i)
		}
	}
	return idle
}

// plainWorst breaks each sound board; fewestOf tells the least numbers of boards then.
func plainWorst(yard string, patches int, fewestOf func(yard string) []int) (int, int) {
	worst, most := 0, 0
	for board := range len(yard) {
		if yard[board] == 'o' {
			fewest := fewestOf(yard[:board] + "x" + yard[board+1:])
			if boards := fewest[min(patches, len(yard))]; boards > most {
				worst, most = board, boards
			}
		}
	}
	return worst, most
}

// allYards returns all yards of up to so many boards.
func allYards(boards int) []string {
	var yards []string
	for long := 1; long <= boards; long++ {
		yards = append(yards, allFences(long, "xo")...)
	}
	return yards
}

// randomYard returns a yard with many broken boards, or with few.
func randomYard(r *rand.Rand) string {
	return randomFence(r, 1+r.Intn(impl.MaxYard), []string{"xo", "xxxxo", "xooooo", "xoo", "xooooooooooo"}[r.Intn(5)])
}

// randomPatches returns so many patches of a yard with so many boards.
func randomPatches(r *rand.Rand, boards int, many int) [][]int {
	patches := make([][]int, many)
	for i := range patches {
		first := r.Intn(boards)
		patches[i] = []int{first, first + r.Intn(boards-first)}
	}
	return patches
}
