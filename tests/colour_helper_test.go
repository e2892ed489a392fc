package tests

import (
	"math/rand"
	"strings"

	"loop.example/g01373/impl"
)

const allTints = "abcde"

// placing is a size of fences.
type placing struct {
	boards int
	tints  int
	around bool
}

// shortPlacings are all sizes of fences short enough to go through all of them.
func shortPlacings() []placing {
	var all []placing
	for tints := 1; tints <= impl.MaxTints; tints++ {
		for boards := 1; boards <= 6; boards++ {
			all = append(all, placing{boards, tints, false})
			if boards >= 3 {
				all = append(all, placing{boards, tints, true})
			}
		}
	}
	return all
}

// allPlacings are all sizes that the limits allow.
func allPlacings() []placing {
	var all []placing
	for tints := 1; tints <= impl.MaxTints; tints++ {
		for boards := 1; boards <= impl.MaxBoards; boards++ {
			all = append(all, placing{boards, tints, false})
			if boards >= 3 {
				all = append(all, placing{boards, tints, true})
			}
		}
	}
	return all
}

// plainProper looks at each pair of boards side by side.
func plainProper(fence string, around bool) bool {
	for i := range fence {
		beside := (i + 1) % len(fence)
		if fence[i] == '.' || (beside > 0 || around) && i != beside && fence[i] == fence[beside] {
			return false
		}
	}
	return true
}

// properFences returns all proper fences of a size in order.
func properFences(p placing) []string {
	var found []string
	for _, fence := range allFences(p.boards, allTints[:p.tints]) {
		if plainProper(fence, p.around) {
			found = append(found, fence)
		}
	}
	return found
}

// never stands for a tint that a board cannot have.
const never = 1 << 40

// plainCheapest returns the least cost of a proper fence, and how many there are, for costs of all MaxTints tints: from
// the left to the right, for each tint of the first board.
func plainCheapest(costs [][]int, around bool) (int, int) {
	least, count := never, 0
	for first := range impl.MaxTints {
		ends, ways := make([]int, impl.MaxTints), make([]int, impl.MaxTints)
		for tint := range ends {
			ends[tint] = never
		}
		ends[first], ways[first] = costs[0][first], 1
		for _, board := range costs[1:] {
			ends, ways = plainStep(ends, ways, board)
		}
		for tint, cost := range ends {
			if around && tint == first || cost >= never {
				continue
			}
			if cost < least {
				least, count = cost, 0
			}
			if cost == least {
				count += ways[tint]
			}
		}
	}
	return least, count
}

func plainStep(ends []int, ways []int, board []int) ([]int, []int) {
	next, nextWays := make([]int, impl.MaxTints), make([]int, impl.MaxTints)
	for tint := range next {
		next[tint] = never
		for other, cost := range ends {
			sum := cost + board[tint]
			if other == tint || sum >= never {
				continue
			}
			if sum < next[tint] {
				next[tint], nextWays[tint] = sum, 0
			}
			if sum == next[tint] {
				nextWays[tint] += ways[other]
			}
		}
	}
	return next, nextWays
}

// plainFirst returns the first one of the cheapest proper fences: it takes the first tint at each board that costs no more.
func plainFirst(costs [][]int, around bool) string {
	least, _ := plainCheapest(costs, around)
	if least >= never {
		return ""
	}
	rest := make([][]int, len(costs))
	copy(rest, costs)
	fence := ""
	for i := range rest {
		for tint := range impl.MaxTints {
			rest[i] = onlyTint(tint, costs[i][tint])
			if cost, _ := plainCheapest(rest, around); cost == least {
				fence += allTints[tint : tint+1]
				break
			}
		}
	}
	return fence
}

func onlyTint(tint int, cost int) []int {
	board := []int{never, never, never, never, never}
	board[tint] = cost
	return board
}

// plainCosts returns the costs of all tints of each board, where a rule tells them.
func plainCosts(boards int, rule func(board int, tint byte) int) [][]int {
	costs := make([][]int, boards)
	for i := range costs {
		for tint := range impl.MaxTints {
			costs[i] = append(costs[i], rule(i, allTints[tint]))
		}
	}
	return costs
}

// fillCosts are 0 for tints that fill a fence.
func fillCosts(fence string, tints int) [][]int {
	return plainCosts(len(fence), func(i int, tint byte) int {
		if strings.IndexByte(allTints[:tints], tint) < 0 || fence[i] != '.' && fence[i] != tint {
			return never
		}
		return 0
	})
}

// repaintCosts are 1 for tints that a board does not have yet.
func repaintCosts(fence string, tints int) [][]int {
	return plainCosts(len(fence), func(i int, tint byte) int {
		if strings.IndexByte(allTints[:tints], tint) < 0 {
			return never
		}
		if fence[i] == tint {
			return 0
		}
		return 1
	})
}

// listCosts are 0 for the tints of a list.
func listCosts(lists []string) [][]int {
	return plainCosts(len(lists), func(i int, tint byte) int {
		if strings.IndexByte(lists[i], tint) < 0 {
			return never
		}
		return 0
	})
}

// wideCosts have all MaxTints tints, those that are not told never to be had.
func wideCosts(costs [][]int) [][]int {
	return plainCosts(len(costs), func(i int, tint byte) int {
		if k := int(tint - 'a'); k < len(costs[i]) {
			return costs[i][k]
		}
		return never
	})
}

func randomLists(r *rand.Rand, boards int) []string {
	lists := make([]string, boards)
	for i := range lists {
		for _, tint := range allTints {
			if r.Intn(3) == 0 {
				lists[i] += string(tint)
			}
		}
		if lists[i] == "" {
			lists[i] = "ace"[r.Intn(3):][:1]
		}
	}
	return lists
}

func randomCosts(r *rand.Rand, boards int, tints int, most int) [][]int {
	costs := make([][]int, boards)
	for i := range costs {
		for range tints {
			costs[i] = append(costs[i], r.Intn(most+1))
		}
	}
	return costs
}
