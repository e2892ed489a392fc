package tests

import (
	"fmt"
	"math/rand"
	"slices"
	"testing"

	"loop.example/g01373/impl"
)

// row is a fence with gates.
type row struct {
	boards int
	gates  []int
}

// checkParts compares what is told of the parts.
func checkParts(t *testing.T, c row) {
	t.Helper()
	name := fmt.Sprint(" ", c)
	parts := plainParts(c.boards, c.gates)
	expect(t, "AreGates"+name, results(impl.AreGates(c.boards, c.gates)), true)
	expect(t, "PartsOf"+name, results(impl.PartsOf(c.boards, c.gates)), parts, true)
	expect(t, "GatesOfParts"+name, results(impl.GatesOfParts(parts)), c.gates, true)
	long, most := firstExtreme(parts, 1)
	expect(t, "LongestPart"+name, results(impl.LongestPart(c.boards, c.gates)), long, most, true)
	short, least := firstExtreme(parts, -1)
	expect(t, "ShortestPart"+name, results(impl.ShortestPart(c.boards, c.gates)), short, least, true)
	expect(t, "IsEven"+name, results(impl.IsEven(c.boards, c.gates)), plainIsEven(c.boards, c.gates), true)
	expect(t, "GatesText"+name, results(impl.GatesText(c.gates)), plainGatesText(c.gates), true)
	expect(t, "ParseGates"+name, results(impl.ParseGates(plainGatesText(c.gates))), c.gates, true)
	mirrored := slices.Clone(c.gates)
	slices.Reverse(mirrored)
	for i, gate := range mirrored {
		mirrored[i] = c.boards - gate
	}
	expect(t, "MirrorGates"+name, results(impl.MirrorGates(c.boards, c.gates)), mirrored, true)
}

// checkRank compares a rank, and what comes next.
func checkRank(t *testing.T, c row) {
	t.Helper()
	name := fmt.Sprint(" ", c)
	rank := plainRank(c.boards, c.gates)
	expect(t, "RankOfGates"+name, results(impl.RankOfGates(c.boards, c.gates)), rank, true)
	expect(t, "GatesOfRank"+name, results(impl.GatesOfRank(c.boards, len(c.gates), rank)), c.gates, true)
	next := nextGates(c.boards, c.gates)
	if next == nil {
		expectZero(t, "GatesOfRank behind"+name, results(impl.GatesOfRank(c.boards, len(c.gates), rank+1)))
		return
	}
	expect(t, "GatesOfRank behind"+name, results(impl.GatesOfRank(c.boards, len(c.gates), rank+1)), next, true)
}

// checkWalks compares all walks by what a plain search tells of them.
func checkWalks(t *testing.T, c row, walk func(a int, b int) int) {
	t.Helper()
	name := fmt.Sprint(" ", c)
	for a := range c.boards {
		for b := range c.boards {
			at := fmt.Sprint(name, a, b)
			if len(c.gates) == 0 {
				expectZero(t, "WalkAcross"+at, results(impl.WalkAcross(c.boards, c.gates, a, b)))
				continue
			}
			expect(t, "WalkAcross"+at, results(impl.WalkAcross(c.boards, c.gates, a, b)), walk(a, b), true)
		}
		gate, steps := plainNearest(c.boards, c.gates, a)
		expect(t, fmt.Sprint("NearestGate", name, a), results(impl.NearestGate(c.boards, c.gates, a)), gate, steps, gate > 0)
	}
	if len(c.gates) == 0 {
		expectZero(t, "FarthestWalk"+name, results(impl.FarthestWalk(c.boards, c.gates)))
		return
	}
	a, b, most := plainFarthest(c.boards, walk)
	expect(t, "FarthestWalk"+name, results(impl.FarthestWalk(c.boards, c.gates)), a, b, most, true)
}

// checkGatePlaces puts and takes a gate at each place, and at some where none can be.
func checkGatePlaces(t *testing.T, c row) {
	t.Helper()
	for gate := -2; gate <= c.boards+2; gate++ {
		name := fmt.Sprint(" ", c, gate)
		isThere := slices.Contains(c.gates, gate)
		if isThere {
			taken := slices.DeleteFunc(slices.Clone(c.gates), func(other int) bool { return other == gate })
			expect(t, "TakeGate"+name, results(impl.TakeGate(c.boards, c.gates, gate)), taken, true)
		} else {
			expectZero(t, "TakeGate"+name, results(impl.TakeGate(c.boards, c.gates, gate)))
		}
		if isThere || gate < 1 || gate >= c.boards || len(c.gates) == impl.MaxGates {
			expectZero(t, "PutGate"+name, results(impl.PutGate(c.boards, c.gates, gate)))
			continue
		}
		put := append(slices.Clone(c.gates), gate)
		slices.Sort(put)
		expect(t, "PutGate"+name, results(impl.PutGate(c.boards, c.gates, gate)), put, true)
	}
}

// TestAllShortRows compares for all gates of few boards.
func TestAllShortRows(t *testing.T) {
	for boards := 2; boards <= 8; boards++ {
		for many := range boards {
			for _, gates := range plainLists(boards, many, 1) {
				c := row{boards, gates}
				checkParts(t, c)
				checkRank(t, c)
				checkWalks(t, c, func(a int, b int) int { return plainWalk(boards, gates, a, b) })
				checkGatePlaces(t, c)
			}
		}
	}
}

// TestAllWaysOfFew compares what is told of all ways with the lists of them.
func TestAllWaysOfFew(t *testing.T) {
	for boards := 2; boards <= 13; boards++ {
		for many := range impl.MaxGates + 1 {
			name := fmt.Sprint(" ", boards, many)
			lists := plainLists(boards, many, 1)
			expect(t, "CountGateWays"+name, results(impl.CountGateWays(boards, many)), len(lists), true)
			for rank, gates := range lists {
				expect(t, "GatesOfRank"+name, results(impl.GatesOfRank(boards, many, rank)), gates, true)
				expect(t, "RankOfGates"+name, results(impl.RankOfGates(boards, gates)), rank, true)
			}
			expectZero(t, "GatesOfRank"+name, results(impl.GatesOfRank(boards, many, len(lists))))
			even := slices.IndexFunc(lists, func(gates []int) bool { return plainIsEven(boards, gates) })
			if even < 0 {
				expectZero(t, "EvenGates"+name, results(impl.EvenGates(boards, many)))
			} else {
				expect(t, "EvenGates"+name, results(impl.EvenGates(boards, many)), lists[even], true)
			}
			checkLongest(t, boards, many, lists)
		}
	}
}

// checkLongest compares for each length how many of some lists have no longer part.
func checkLongest(t *testing.T, boards int, many int, lists [][]int) {
	t.Helper()
	within := make([]int, impl.MaxRow+1)
	for _, gates := range lists {
		for most := slices.Max(plainParts(boards, gates)); most <= impl.MaxRow; most++ {
			within[most]++
		}
	}
	for most := 1; most <= impl.MaxRow; most++ {
		expect(t, fmt.Sprint("CountWithLongest ", boards, many, most), results(impl.CountWithLongest(boards, many, most)), within[most], true)
	}
}

// TestAllNumbersOfGates goes through all boards and numbers of gates that there are, without all ways being told.
func TestAllNumbersOfGates(t *testing.T) {
	for boards := 2; boards <= impl.MaxRow; boards++ {
		for many := range impl.MaxGates + 1 {
			name := fmt.Sprint(" ", boards, many)
			expect(t, "CountGateWays"+name, results(impl.CountGateWays(boards, many)), choose(boards-1, many), true)
			for most := 1; most <= impl.MaxRow; most++ {
				expect(t, fmt.Sprint("CountWithLongest", name, most), results(impl.CountWithLongest(boards, many, most)), plainWithLongest(boards, many, most), true)
			}
			if boards <= many {
				expectZero(t, "EvenGates"+name, results(impl.EvenGates(boards, many)))
				continue
			}
			// The first ones are those with the shorter parts first.
			gates, ok := impl.EvenGates(boards, many)
			parts := plainParts(boards, gates)
			if !ok || len(gates) != many || !slices.IsSorted(parts) || parts[many]-parts[0] > 1 {
				t.Error("EvenGates", boards, many, gates, ok)
			}
			checkRank(t, row{boards, gates})
			checkRank(t, row{boards, stairs(many, 1, 1)})
			checkRank(t, row{boards, stairs(many, boards-many, 1)})
		}
	}
}

// TestFewestGatesAreEnough tries number after number until there is a way, as far as so many can be asked for.
func TestFewestGatesAreEnough(t *testing.T) {
	for boards := 2; boards <= impl.MaxRow; boards++ {
		for most := 1; most <= impl.MaxRow; most++ {
			many := 0
			for (many+1)*most < boards {
				many++
			}
			expect(t, fmt.Sprint("FewestGates ", boards, most), results(impl.FewestGates(boards, most)), many, true)
			if many > impl.MaxGates {
				continue
			}
			if ways, ok := impl.CountWithLongest(boards, many, most); !ok || ways == 0 {
				t.Error("too few gates", boards, most, many)
			}
			if many > 0 {
				expect(t, "CountWithLongest", results(impl.CountWithLongest(boards, many-1, most)), 0, true)
			}
		}
	}
}

// TestRandomRows has gates of up to as many boards as there may be.
func TestRandomRows(t *testing.T) {
	r := rand.New(rand.NewSource(71))
	for i := range 150 {
		boards := 2 + r.Intn(impl.MaxRow-1)
		if i%3 == 0 {
			boards = impl.MaxRow
		}
		gates := randomGates(r, boards)
		c := row{boards, gates}
		checkParts(t, c)
		checkRank(t, c)
		checkGatePlaces(t, c)
		checkWalks(t, c, func(a int, b int) int { return nearWalk(gates, a, b) })
		if a, b := r.Intn(boards), r.Intn(boards); len(gates) > 0 {
			expect(t, fmt.Sprint("WalkAcross ", c, a, b), results(impl.WalkAcross(boards, gates, a, b)), plainWalk(boards, gates, a, b), true)
		}
	}
}

func TestRandomRanks(t *testing.T) {
	r := rand.New(rand.NewSource(72))
	for range 3000 {
		boards := 2 + r.Intn(impl.MaxRow-1)
		checkRank(t, row{boards, randomGates(r, boards)})
	}
}

// TestRandomGateParts has parts that are together too few or too many boards as well.
func TestRandomGateParts(t *testing.T) {
	r := rand.New(rand.NewSource(73))
	for range 3000 {
		parts := randomNumbers(r, impl.MaxGates+1, []int{1, 2, 4, 8, 40}[r.Intn(5)])
		name := fmt.Sprint("GatesOfParts ", parts)
		boards := sum(parts)
		if boards < 2 || boards > 40 {
			expectZero(t, name, results(impl.GatesOfParts(parts)))
			continue
		}
		gates, ok := impl.GatesOfParts(parts)
		if !ok || !plainAreGates(boards, gates) || !slices.Equal(plainParts(boards, gates), parts) {
			t.Error(name, gates, ok)
		}
	}
}

// allTrips returns all trips between so many boards.
func allTrips(boards int) [][]int {
	var trips [][]int
	for a := range boards {
		for b := range boards {
			trips = append(trips, []int{a, b})
		}
	}
	return trips
}

// TestAllShortTrips goes through all lists of one trip and of two trips along few boards.
func TestAllShortTrips(t *testing.T) {
	for boards := 2; boards <= 6; boards++ {
		for _, one := range allTrips(boards) {
			checkBest(t, boards, [][]int{one})
			for _, other := range allTrips(boards) {
				checkBest(t, boards, [][]int{one, other})
			}
		}
	}
}

func checkBest(t *testing.T, boards int, trips [][]int) {
	t.Helper()
	gate, steps := plainBest(boards, trips)
	expect(t, fmt.Sprint("BestGate ", boards, trips), results(impl.BestGate(boards, trips)), gate, steps, true)
}

func TestRandomTrips(t *testing.T) {
	r := rand.New(rand.NewSource(74))
	for range 60 {
		boards := 2 + r.Intn(impl.MaxRow-1)
		checkBest(t, boards, randomTrips(r, boards))
	}
}

// TestAllShortGateLists goes through all lists of up to four numbers, those beyond both ends too.
func TestAllShortGateLists(t *testing.T) {
	for boards := 0; boards <= 5; boards++ {
		for _, list := range append(allNumbers(4, boards+3), nil) {
			gates := make([]int, len(list))
			for i, number := range list {
				gates[i] = number - 2
			}
			areGates := plainAreGates(boards, gates)
			expect(t, fmt.Sprint("AreGates ", boards, gates), results(impl.AreGates(boards, gates)), areGates)
			if !areGates {
				expectAllZero(t, fmt.Sprint(boards, gates), rowCalls(boards, gates))
			}
		}
	}
}
