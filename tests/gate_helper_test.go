package tests

import (
	"fmt"
	"math/big"
	"math/rand"
	"slices"

	"loop.example/g01373/impl"
)

// plainAreGates looks at the boards, then at each gate together with the one before.
func plainAreGates(boards int, gates []int) bool {
	if boards < 2 || boards > 40 || len(gates) > 10 {
		return false
	}
	for i, gate := range gates {
		if gate <= 0 || gate >= boards || i > 0 && gate <= gates[i-1] {
			return false
		}
	}
	return true
}

// plainLists returns all lists of so many gates from one place on, in order.
func plainLists(boards int, many int, from int) [][]int {
	if many == 0 {
		return [][]int{nil}
	}
	var lists [][]int
	for gate := from; gate < boards; gate++ {
		for _, rest := range plainLists(boards, many-1, gate+1) {
			lists = append(lists, append([]int{gate}, rest...))
		}
	}
	return lists
}

// plainParts goes from board to board and begins a part at each gate.
func plainParts(boards int, gates []int) []int {
	parts := []int{1}
	for board := 1; board < boards; board++ {
		if slices.Contains(gates, board) {
			parts = append(parts, 0)
		}
		parts[len(parts)-1]++
	}
	return parts
}

func plainIsEven(boards int, gates []int) bool {
	parts := plainParts(boards, gates)
	return slices.Max(parts)-slices.Min(parts) <= 1
}

// firstExtreme returns the first index of the part that is the longest one if side is 1, the shortest one if it is -1.
func firstExtreme(parts []int, side int) (int, int) {
	best := 0
	for i, part := range parts {
		if part*side > parts[best]*side {
			best = i
		}
	}
	return best, parts[best]
}

// choose returns in how many ways so many of some things can be taken.
func choose(things int, many int) int {
	if things < many {
		return 0
	}
	return int(new(big.Int).Binomial(int64(things), int64(many)).Int64())
}

// plainWithLongest takes away the ways in which a part is too long, gives back those in which two are, and so on.
func plainWithLongest(boards int, many int, most int) int {
	ways := 0
	for long := 0; long <= many+1; long++ {
		some := choose(many+1, long) * choose(boards-long*most-1, many)
		if long%2 == 1 {
			some = -some
		}
		ways += some
	}
	return ways
}

// plainRank counts, for each gate, the lists with a lesser one in its place.
func plainRank(boards int, gates []int) int {
	rank, before := 0, 0
	for i, gate := range gates {
		for lesser := before + 1; lesser < gate; lesser++ {
			rank += choose(boards-1-lesser, len(gates)-i-1)
		}
		before = gate
	}
	return rank
}

// nextGates returns the list of as many gates that comes next, nil if there is none.
func nextGates(boards int, gates []int) []int {
	next := slices.Clone(gates)
	for i := len(next) - 1; i >= 0; i-- {
		if next[i] == boards-len(next)+i {
			continue
		}
		first := next[i] + 1
		copy(next[i:], stairs(len(next)-i, first, 1))
		return next
	}
	return nil
}

// plainNearest goes away from a board by steps to both sides until it meets a gate, 0 if there is none.
func plainNearest(boards int, gates []int, board int) (int, int) {
	for steps := range boards {
		if slices.Contains(gates, board-steps) {
			return board - steps, 2*steps + 1
		}
		if slices.Contains(gates, board+1+steps) {
			return board + 1 + steps, 2*steps + 1
		}
	}
	return 0, 0
}

// plainWalk walks by half steps to both sides at once, and through each gate that it meets, until it comes to b at the other side.
func plainWalk(boards int, gates []int, a int, b int) int {
	// The board b is at the place 2b + 1, the gate g at 2g, and nobody is at both ends.
	var here, there [2*impl.MaxRow + 1]bool
	here[2*a+1] = true
	for steps := 0; ; steps++ {
		for _, gate := range gates {
			there[2*gate] = there[2*gate] || here[2*gate]
		}
		if there[2*b+1] {
			return steps
		}
		here, there = onward(boards, here), onward(boards, there)
	}
}

// onward tells where one may be half a step later who may be at some places.
func onward(boards int, at [2*impl.MaxRow + 1]bool) [2*impl.MaxRow + 1]bool {
	later := at
	for place := 1; place < 2*boards; place++ {
		later[place] = at[place] || at[place-1] || at[place+1]
	}
	later[0], later[2*boards] = false, false
	return later
}

// nearWalk walks straight on if there is a gate on the way, and else to the next gate at one side of it and back.
func nearWalk(gates []int, a int, b int) int {
	left, right, detour := min(a, b), max(a, b), -1
	for _, gate := range gates {
		more := 0
		if gate <= left {
			more = 2 * (2*(left-gate) + 1)
		} else if gate > right {
			more = 2 * (2*(gate-right) - 1)
		}
		if detour < 0 || more < detour {
			detour = more
		}
	}
	return 2*(right-left) + detour
}

// plainFarthest goes through all boards a and b.
func plainFarthest(boards int, walk func(a int, b int) int) (int, int, int) {
	from, to, most := 0, 0, -1
	for a := range boards {
		for b := range boards {
			if walk(a, b) > most {
				from, to, most = a, b, walk(a, b)
			}
		}
	}
	return from, to, most
}

// plainBest tries each place.
func plainBest(boards int, trips [][]int) (int, int) {
	best, least := 0, -1
	for place := 1; place < boards; place++ {
		steps := 0
		for _, trip := range trips {
			steps += plainWalk(boards, []int{place}, trip[0], trip[1])
		}
		if least < 0 || steps < least {
			best, least = place, steps
		}
	}
	return best, least
}

// plainGatesText writes gate by gate.
func plainGatesText(gates []int) string {
	text := ""
	for i, gate := range gates {
		if i > 0 {
			text += "|"
		}
		text += fmt.Sprint(gate)
	}
	return text
}

func randomGates(r *rand.Rand, boards int) []int {
	gates := r.Perm(boards - 1)[:r.Intn(min(impl.MaxGates, boards-1)+1)]
	for i := range gates {
		gates[i]++
	}
	slices.Sort(gates)
	return gates
}

// randomTrips returns trips that are near to each other, or not.
func randomTrips(r *rand.Rand, boards int) [][]int {
	trips := make([][]int, 1+r.Intn(impl.MaxTrips))
	within := 1 + r.Intn(boards)
	for i := range trips {
		trips[i] = []int{r.Intn(within), r.Intn(within)}
	}
	return trips
}
