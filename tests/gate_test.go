package tests

import (
	"fmt"
	"slices"
	"testing"

	"loop.example/g01373/impl"
)

// Promise 7: parts of gates are all boards, and walks go by the nearest gates.

// exampleGates returns gates of 9 boards of which no test can spoil another one's.
func exampleGates() []int {
	return []int{3, 5}
}

// mostGates and lastGates are as many as there may be, at both ends of MaxRow boards.
var (
	mostGates = stairs(impl.MaxGates, 1, 1)
	lastGates = stairs(impl.MaxGates, impl.MaxRow-impl.MaxGates, 1)
	wideGates = stairs(impl.MaxGates, 4, 3)
)

func TestGateConstants(t *testing.T) {
	if impl.MaxRow != 40 || impl.MaxGates != 10 || impl.MaxTrips != 20 {
		t.Error("limits", impl.MaxRow, impl.MaxGates, impl.MaxTrips)
	}
}

func TestGateExample(t *testing.T) {
	gates := exampleGates()
	expect(t, "PartsOf", results(impl.PartsOf(9, gates)), []int{3, 2, 4}, true)
	expect(t, "GatesOfParts", results(impl.GatesOfParts([]int{3, 2, 4})), gates, true)
	expect(t, "LongestPart", results(impl.LongestPart(9, gates)), 2, 4, true)
	expect(t, "IsEven", results(impl.IsEven(9, gates)), false, true)
	expect(t, "EvenGates", results(impl.EvenGates(9, 2)), []int{3, 6}, true)
	expect(t, "CountGateWays", results(impl.CountGateWays(9, 2)), 28, true)
	expect(t, "RankOfGates", results(impl.RankOfGates(9, gates)), 14, true)
	expect(t, "GatesOfRank", results(impl.GatesOfRank(9, 2, 14)), gates, true)
	expect(t, "CountWithLongest", results(impl.CountWithLongest(9, 2, 4)), 10, true)
	expect(t, "FewestGates", results(impl.FewestGates(9, 4)), 2, true)
	expect(t, "NearestGate", results(impl.NearestGate(9, gates, 4)), 5, 1, true)
	expect(t, "WalkAcross", results(impl.WalkAcross(9, gates, 0, 8)), 16, true)
	expect(t, "WalkAcross", results(impl.WalkAcross(9, gates, 4, 4)), 2, true)
	expect(t, "BestGate", results(impl.BestGate(9, [][]int{{0, 2}, {6, 6}})), 3, 20, true)
}

func TestAreGates(t *testing.T) {
	for _, c := range []struct {
		boards int
		gates  []int
	}{
		{2, nil}, {2, []int{}}, {2, []int{1}}, {3, []int{1}}, {3, []int{2}}, {3, []int{1, 2}}, {9, exampleGates()}, {9, []int{1, 8}}, {11, mostGates}, {12, mostGates}, {12, stairs(10, 2, 1)},
		{40, nil}, {40, []int{1}}, {40, []int{39}}, {40, []int{1, 39}}, {40, mostGates}, {40, lastGates}, {40, wideGates}, {32, wideGates},
	} {
		expect(t, fmt.Sprint("AreGates ", c), results(impl.AreGates(c.boards, c.gates)), true)
	}
	for _, boards := range noRows() {
		for _, gates := range [][]int{nil, {1}, {1, 2}, {boards - 1}} {
			expect(t, fmt.Sprint("AreGates ", boards, gates), results(impl.AreGates(boards, gates)), false)
		}
	}
	for _, boards := range []int{2, 3, 9, 11, 12, 40} {
		for _, gates := range noGates(boards) {
			expect(t, fmt.Sprint("AreGates ", boards, gates[:min(len(gates), 20)]), results(impl.AreGates(boards, gates)), false)
		}
	}
	expect(t, "AreGates", results(impl.AreGates(31, wideGates)), false)
	expect(t, "AreGates", results(impl.AreGates(10, mostGates)), false)
}

// TestParts has the gates of some parts, the longest part and the shortest one, and whether they are even.
func TestParts(t *testing.T) {
	for _, c := range []struct {
		gates, parts      []int
		longest, shortest int
		isEven            bool
	}{
		// Without a gate all boards are one part.
		{nil, []int{2}, 0, 0, true}, {nil, []int{3}, 0, 0, true}, {nil, []int{40}, 0, 0, true},
		{[]int{1}, []int{1, 1}, 0, 0, true}, {[]int{1}, []int{1, 2}, 1, 0, true}, {[]int{2}, []int{2, 1}, 0, 1, true}, {[]int{1}, []int{1, 3}, 1, 0, false}, {[]int{1}, []int{1, 39}, 1, 0, false}, {[]int{39}, []int{39, 1}, 0, 1, false}, {[]int{20}, []int{20, 20}, 0, 0, true},
		{[]int{19}, []int{19, 21}, 1, 0, false}, {[]int{20}, []int{20, 19}, 0, 1, true}, {[]int{1, 39}, []int{1, 38, 1}, 1, 0, false},
		{[]int{3, 5}, []int{3, 2, 4}, 2, 1, false}, {[]int{3, 6}, []int{3, 3, 3}, 0, 0, true}, {[]int{3, 5}, []int{3, 2, 3}, 0, 1, true}, {[]int{3, 5}, []int{3, 2, 2}, 0, 1, true}, {[]int{2, 5}, []int{2, 3, 2}, 1, 0, true}, {[]int{2, 5}, []int{2, 3, 4}, 2, 0, false}, {[]int{4, 7}, []int{4, 3, 2}, 0, 2, false}, {[]int{2, 6}, []int{2, 4, 2}, 1, 0, false}, {[]int{4, 6}, []int{4, 2, 4}, 0, 1, false},
		// Between gates beside each other there is one board.
		{[]int{4, 5}, []int{4, 1, 4}, 0, 1, false}, {[]int{1, 2}, []int{1, 1, 1}, 0, 0, true}, {[]int{7, 8}, []int{7, 1, 1}, 0, 1, false}, {[]int{1, 2}, []int{1, 1, 7}, 2, 0, false},
		{mostGates, times(11, 1), 0, 0, true}, {mostGates, append(times(10, 1), 2), 10, 0, true}, {mostGates, append(times(10, 1), 30), 10, 0, false}, {lastGates, append([]int{30}, times(10, 1)...), 0, 1, false}, {wideGates, append([]int{4}, append(times(9, 3), 9)...), 10, 1, false}, {wideGates, append([]int{4}, append(times(9, 3), 4)...), 0, 1, true}, {wideGates, append([]int{4}, times(10, 3)...), 0, 1, true},
	} {
		boards := sum(c.parts)
		name := fmt.Sprint(" ", boards, c.gates)
		expect(t, "PartsOf"+name, results(impl.PartsOf(boards, c.gates)), c.parts, true)
		expect(t, "GatesOfParts"+name, results(impl.GatesOfParts(c.parts)), c.gates, true)
		expect(t, "LongestPart"+name, results(impl.LongestPart(boards, c.gates)), c.longest, c.parts[c.longest], true)
		expect(t, "ShortestPart"+name, results(impl.ShortestPart(boards, c.gates)), c.shortest, c.parts[c.shortest], true)
		expect(t, "IsEven"+name, results(impl.IsEven(boards, c.gates)), c.isEven, true)
	}
}

func TestEvenGates(t *testing.T) {
	for _, c := range []struct {
		boards int
		gates  []int
	}{
		{2, nil}, {3, nil}, {40, nil}, {2, []int{1}}, {3, []int{1}}, {4, []int{2}}, {39, []int{19}}, {40, []int{20}}, {3, []int{1, 2}}, {4, []int{1, 2}}, {5, []int{1, 3}}, {6, []int{2, 4}}, {10, []int{3, 6}}, {11, []int{3, 7}}, {40, []int{13, 26}}, {6, []int{1, 2, 4}}, {7, []int{1, 3, 5}}, {40, []int{10, 20, 30}}, {40, []int{8, 16, 24, 32}},
		{11, mostGates}, {12, mostGates}, {13, []int{1, 2, 3, 4, 5, 6, 7, 8, 9, 11}}, {22, stairs(10, 2, 2)}, {33, stairs(10, 3, 3)}, {40, []int{3, 6, 9, 12, 16, 20, 24, 28, 32, 36}}, {40, []int{4, 8, 12, 16, 20, 24, 28, 32, 36}}, {10, stairs(9, 1, 1)}, {11, stairs(9, 1, 1)},
	} {
		name := fmt.Sprint(" ", c)
		expect(t, "EvenGates"+name, results(impl.EvenGates(c.boards, len(c.gates))), c.gates, true)
		expect(t, "IsEven"+name, results(impl.IsEven(c.boards, c.gates)), true, true)
	}
	for _, c := range [][2]int{{2, 2}, {2, 3}, {2, 10}, {3, 3}, {9, 9}, {9, 10}, {10, 10}} {
		expectZero(t, fmt.Sprint("EvenGates ", c), results(impl.EvenGates(c[0], c[1])))
	}
}

func TestCountGateWays(t *testing.T) {
	for _, c := range []struct{ boards, many, ways int }{
		{2, 0, 1}, {2, 1, 1}, {3, 0, 1}, {3, 1, 2}, {3, 2, 1}, {9, 1, 8}, {9, 8, 1}, {9, 4, 70}, {40, 0, 1}, {40, 1, 39}, {40, 2, 741}, {40, 9, 211915132}, {40, 10, 635745396}, {11, 10, 1}, {12, 10, 11}, {21, 10, 184756},
		// With too few boards there is no way.
		{2, 2, 0}, {2, 10, 0}, {3, 3, 0}, {9, 9, 0}, {10, 10, 0},
	} {
		expect(t, fmt.Sprint("CountGateWays ", c), results(impl.CountGateWays(c.boards, c.many)), c.ways, true)
	}
}

func TestCountWithLongest(t *testing.T) {
	for _, c := range []struct{ boards, many, most, ways int }{
		{2, 0, 1, 0}, {2, 0, 2, 1}, {2, 0, 40, 1}, {2, 1, 1, 1}, {2, 1, 2, 1}, {3, 1, 1, 0}, {3, 1, 2, 2}, {3, 2, 1, 1}, {9, 2, 1, 0}, {9, 2, 2, 0}, {9, 2, 3, 1}, {9, 2, 5, 19}, {9, 2, 6, 25}, {9, 2, 7, 28}, {9, 2, 8, 28}, {9, 2, 40, 28}, {9, 8, 1, 1}, {9, 7, 1, 0}, {10, 2, 4, 6},
		{11, 10, 1, 1}, {12, 10, 1, 0}, {12, 10, 2, 11}, {40, 0, 39, 0}, {40, 0, 40, 1}, {40, 1, 20, 1}, {40, 1, 19, 0}, {40, 1, 38, 37}, {40, 1, 39, 39}, {40, 1, 40, 39}, {40, 10, 1, 0}, {40, 10, 3, 0}, {40, 10, 4, 990}, {40, 10, 29, 635745385}, {40, 10, 30, 635745396}, {40, 10, 40, 635745396}, {40, 9, 4, 1},
		// With too few boards there is no way.
		{2, 2, 1, 0}, {2, 10, 40, 0}, {9, 9, 5, 0}, {10, 10, 40, 0}, {10, 10, 1, 0},
	} {
		expect(t, fmt.Sprint("CountWithLongest ", c), results(impl.CountWithLongest(c.boards, c.many, c.most)), c.ways, true)
	}
}

func TestFewestGates(t *testing.T) {
	for _, c := range []struct{ boards, most, gates int }{
		// There may be more of these than MaxGates.
		{40, 1, 39}, {40, 2, 19}, {40, 3, 13}, {12, 1, 11}, {39, 2, 19},
		{2, 1, 1}, {2, 2, 0}, {2, 40, 0}, {3, 1, 2}, {3, 2, 1}, {3, 3, 0}, {9, 1, 8}, {9, 2, 4}, {9, 3, 2}, {9, 8, 1}, {9, 9, 0}, {9, 10, 0}, {40, 4, 9}, {40, 13, 3}, {40, 14, 2}, {40, 19, 2}, {40, 20, 1}, {40, 39, 1}, {40, 40, 0},
	} {
		expect(t, fmt.Sprint("FewestGates ", c), results(impl.FewestGates(c.boards, c.most)), c.gates, true)
	}
}

// TestGateRanks has the first rank, the last one, and one beyond on both sides.
func TestGateRanks(t *testing.T) {
	for _, c := range []struct {
		boards int
		gates  []int
		rank   int
	}{
		{2, nil, 0}, {40, nil, 0}, {2, []int{1}, 0}, {3, []int{1}, 0}, {3, []int{2}, 1}, {3, []int{1, 2}, 0}, {40, []int{1}, 0}, {40, []int{20}, 19}, {40, []int{39}, 38}, {9, []int{1, 2}, 0}, {9, []int{1, 8}, 6}, {9, []int{2, 3}, 7}, {9, []int{3, 4}, 13}, {9, []int{3, 6}, 15}, {9, []int{7, 8}, 27},
		{11, mostGates, 0}, {12, mostGates, 0}, {12, stairs(10, 2, 1), 10}, {40, mostGates, 0}, {40, append(stairs(9, 1, 1), 11), 1}, {40, append(stairs(9, 1, 1), 39), 29}, {40, append(stairs(8, 1, 1), 10, 11), 30}, {40, lastGates, 635745395}, {40, append([]int{29}, lastGates[1:]...), 635745394},
	} {
		name := fmt.Sprint(" ", c)
		expect(t, "RankOfGates"+name, results(impl.RankOfGates(c.boards, c.gates)), c.rank, true)
		expect(t, "GatesOfRank"+name, results(impl.GatesOfRank(c.boards, len(c.gates), c.rank)), c.gates, true)
	}
	for _, c := range [][3]int{{2, 0, 1}, {40, 0, 1}, {2, 1, 1}, {3, 1, 2}, {3, 2, 1}, {9, 2, 28}, {9, 2, -1}, {40, 1, 39}, {40, 10, 635745396}, {11, 10, 1}, {9, 2, 29}, {9, 0, -1}, {2, 2, 0}, {2, 2, 1}, {2, 10, 0}, {9, 9, 0}, {10, 10, 0}, {10, 10, -1}} {
		expectZero(t, fmt.Sprint("GatesOfRank ", c), results(impl.GatesOfRank(c[0], c[1], c[2])))
	}
}

func TestNearestGate(t *testing.T) {
	for _, c := range []struct {
		boards             int
		gates              []int
		board, gate, steps int
	}{
		{2, []int{1}, 0, 1, 1}, {2, []int{1}, 1, 1, 1}, {3, []int{1}, 2, 1, 3}, {3, []int{2}, 0, 2, 3}, {40, []int{1}, 0, 1, 1}, {40, []int{1}, 39, 1, 77}, {40, []int{39}, 0, 39, 77}, {40, []int{39}, 39, 39, 1}, {40, []int{1, 39}, 0, 1, 1}, {40, []int{1, 39}, 39, 39, 1}, {40, []int{1, 39}, 20, 39, 37},
		{9, exampleGates(), 0, 3, 5}, {9, exampleGates(), 2, 3, 1}, {9, exampleGates(), 3, 3, 1}, {9, exampleGates(), 5, 5, 1}, {9, exampleGates(), 8, 5, 7}, {40, mostGates, 20, 10, 21}, {40, mostGates, 39, 10, 59}, {40, lastGates, 0, 30, 59}, {40, lastGates, 29, 30, 1},
		// Of two gates that are equally near it is the lesser one.
		{3, []int{1, 2}, 1, 1, 1}, {9, []int{4, 5}, 4, 4, 1}, {9, []int{3, 6}, 4, 3, 3}, {9, []int{3, 5, 6}, 4, 5, 1}, {9, []int{3, 4, 6}, 4, 4, 1}, {40, []int{1, 38}, 19, 1, 37}, {40, []int{1, 38}, 20, 38, 35}, {40, []int{1, 39}, 19, 1, 37}, {40, mostGates, 5, 5, 1}, {40, lastGates, 35, 35, 1}, {9, []int{1, 8}, 4, 1, 7},
	} {
		expect(t, fmt.Sprint("NearestGate ", c), results(impl.NearestGate(c.boards, c.gates, c.board)), c.gate, c.steps, true)
	}
	expectZero(t, "NearestGate without gates", results(impl.NearestGate(9, nil, 4)))
	expectZero(t, "NearestGate without gates", results(impl.NearestGate(2, []int{}, 0)))
}

func TestWalkAcross(t *testing.T) {
	for _, c := range []struct {
		boards      int
		gates       []int
		a, b, steps int
	}{
		// From a board to the same one, with gates at one side of it, at the other one, and at both.
		{2, []int{1}, 0, 0, 2}, {2, []int{1}, 1, 1, 2}, {9, exampleGates(), 0, 0, 10}, {9, exampleGates(), 8, 8, 14}, {9, exampleGates(), 3, 3, 2}, {9, []int{3, 6}, 4, 4, 6}, {9, []int{2, 6}, 4, 4, 6}, {9, []int{3, 7}, 4, 4, 6}, {40, []int{1}, 39, 39, 154}, {40, []int{39}, 0, 0, 154}, {40, []int{1, 39}, 0, 0, 2}, {40, []int{1, 39}, 20, 20, 74},
		// A gate on the way costs nothing more.
		{2, []int{1}, 0, 1, 2}, {2, []int{1}, 1, 0, 2}, {9, exampleGates(), 8, 0, 16}, {9, exampleGates(), 2, 3, 2}, {9, exampleGates(), 4, 5, 2}, {9, exampleGates(), 0, 3, 6}, {40, []int{1}, 0, 39, 78}, {40, []int{39}, 39, 0, 78}, {40, mostGates, 0, 39, 78}, {40, []int{20}, 0, 39, 78},
		// Without one on the way it is the nearer one at one side.
		{9, exampleGates(), 0, 1, 8}, {9, exampleGates(), 1, 0, 8}, {9, exampleGates(), 3, 4, 4}, {9, exampleGates(), 5, 8, 8}, {9, exampleGates(), 6, 7, 8}, {9, []int{2, 7}, 3, 4, 8}, {9, []int{2, 7}, 4, 5, 8}, {9, []int{2, 8}, 4, 6, 10}, {9, []int{1, 7}, 4, 5, 8}, {40, []int{39}, 0, 38, 78}, {40, []int{1}, 39, 1, 78}, {40, []int{1, 39}, 2, 37, 76}, {40, []int{1, 39}, 1, 38, 76},
	} {
		name := fmt.Sprint("WalkAcross ", c)
		expect(t, name, results(impl.WalkAcross(c.boards, c.gates, c.a, c.b)), c.steps, true)
		expect(t, name, results(impl.WalkAcross(c.boards, c.gates, c.b, c.a)), c.steps, true)
	}
	expectZero(t, "WalkAcross without gates", results(impl.WalkAcross(9, nil, 4, 4)))
	expectZero(t, "WalkAcross without gates", results(impl.WalkAcross(2, []int{}, 0, 1)))
}

func TestFarthestWalk(t *testing.T) {
	for _, c := range []struct {
		boards      int
		gates       []int
		a, b, steps int
	}{
		// Of walks that are equally far it is the first one.
		{2, []int{1}, 0, 0, 2}, {3, []int{1}, 2, 2, 6}, {3, []int{2}, 0, 0, 6}, {3, []int{1, 2}, 0, 2, 4}, {4, []int{2}, 0, 0, 6}, {4, []int{1, 3}, 0, 3, 6}, {9, exampleGates(), 0, 8, 16}, {9, []int{3, 6}, 0, 8, 16}, {9, []int{4}, 8, 8, 18}, {9, []int{5}, 0, 0, 18}, {10, []int{5}, 0, 0, 18}, {10, []int{4}, 9, 9, 22}, {10, []int{2, 7}, 0, 9, 18},
		{40, []int{1}, 39, 39, 154}, {40, []int{39}, 0, 0, 154}, {40, []int{20}, 0, 0, 78}, {40, []int{1, 39}, 0, 39, 78}, {40, []int{1, 2}, 39, 39, 150}, {40, mostGates, 39, 39, 118}, {40, lastGates, 0, 0, 118}, {40, wideGates, 0, 39, 78}, {11, mostGates, 0, 10, 20}, {9, []int{1, 8}, 0, 8, 16},
	} {
		expect(t, fmt.Sprint("FarthestWalk ", c), results(impl.FarthestWalk(c.boards, c.gates)), c.a, c.b, c.steps, true)
	}
	for _, boards := range []int{2, 9, 40} {
		expectZero(t, "FarthestWalk without gates", results(impl.FarthestWalk(boards, nil)))
		expectZero(t, "FarthestWalk without gates", results(impl.FarthestWalk(boards, []int{})))
	}
}

func TestBestGate(t *testing.T) {
	alike := func(many int, a int, b int) [][]int { return slices.Repeat([][]int{{a, b}}, many) }
	for _, c := range []struct {
		boards      int
		trips       [][]int
		gate, steps int
	}{
		{2, alike(1, 0, 0), 1, 2}, {2, alike(1, 0, 1), 1, 2}, {2, alike(20, 1, 1), 1, 40}, {2, alike(20, 1, 0), 1, 40}, {3, alike(1, 0, 0), 1, 2}, {3, alike(1, 2, 2), 2, 2}, {40, alike(1, 0, 0), 1, 2}, {40, alike(1, 39, 39), 39, 2}, {40, alike(20, 39, 39), 39, 40},
		// Of places that are equally good it is the least one.
		{3, alike(1, 1, 1), 1, 2}, {3, alike(1, 0, 2), 1, 4}, {9, alike(1, 4, 4), 4, 2}, {9, alike(20, 4, 4), 4, 40}, {9, alike(1, 2, 6), 3, 8}, {9, alike(20, 6, 2), 3, 160}, {40, alike(1, 0, 39), 1, 78}, {40, alike(20, 39, 0), 1, 1560}, {40, alike(20, 38, 39), 39, 40}, {40, alike(1, 37, 38), 38, 2},
		{9, [][]int{{0, 2}, {6, 6}, {6, 6}}, 6, 22}, {9, [][]int{{0, 0}, {8, 8}}, 1, 32}, {9, [][]int{{0, 0}, {8, 8}, {8, 8}}, 8, 34}, {9, [][]int{{0, 0}, {4, 4}, {8, 8}}, 4, 34}, {9, [][]int{{0, 3}, {5, 8}}, 4, 20}, {9, [][]int{{0, 5}, {3, 8}}, 4, 20}, {9, [][]int{{5, 0}, {8, 3}}, 4, 20}, {40, append(alike(10, 0, 0), alike(10, 39, 39)...), 1, 1560}, {40, append(alike(9, 0, 0), alike(11, 39, 39)...), 39, 1408},
	} {
		expect(t, fmt.Sprint("BestGate ", c), results(impl.BestGate(c.boards, c.trips)), c.gate, c.steps, true)
	}
}

// TestEquallyGoodGates asks again and again: whoever is looked at first, the answer is the least one.
func TestEquallyGoodGates(t *testing.T) {
	for range 500 {
		expect(t, "BestGate", results(impl.BestGate(40, [][]int{{0, 39}})), 1, 78, true)
		expect(t, "BestGate", results(impl.BestGate(40, [][]int{{12, 30}, {30, 14}})), 15, 68, true)
		expect(t, "NearestGate", results(impl.NearestGate(40, []int{1, 5, 18, 23, 30, 39}, 20)), 18, 5, true)
	}
}

func TestPutAndTakeGate(t *testing.T) {
	for _, c := range []struct {
		boards int
		gates  []int
		gate   int
		put    []int
	}{
		{2, nil, 1, []int{1}}, {3, nil, 2, []int{2}}, {3, []int{1}, 2, []int{1, 2}}, {3, []int{2}, 1, []int{1, 2}}, {9, exampleGates(), 1, []int{1, 3, 5}}, {9, exampleGates(), 4, []int{3, 4, 5}}, {9, exampleGates(), 8, []int{3, 5, 8}}, {40, nil, 1, []int{1}}, {40, nil, 39, []int{39}}, {40, []int{20}, 39, []int{20, 39}}, {40, []int{20}, 1, []int{1, 20}},
		{40, mostGates[1:], 1, mostGates}, {40, mostGates[:9], 10, mostGates}, {40, lastGates[:9], 39, lastGates}, {40, slices.Concat(wideGates[:4], wideGates[5:]), wideGates[4], wideGates}, {11, mostGates[:9], 10, mostGates},
	} {
		name := fmt.Sprint(" ", c)
		expect(t, "PutGate"+name, results(impl.PutGate(c.boards, c.gates, c.gate)), c.put, true)
		expect(t, "TakeGate"+name, results(impl.TakeGate(c.boards, c.put, c.gate)), c.gates, true)
		// It is there, or it is not.
		expectZero(t, "PutGate"+name, results(impl.PutGate(c.boards, c.put, c.gate)))
		expectZero(t, "TakeGate"+name, results(impl.TakeGate(c.boards, c.gates, c.gate)))
	}
	for _, c := range []struct {
		boards int
		gates  []int
	}{{2, nil}, {2, []int{1}}, {9, exampleGates()}, {9, []int{1, 8}}, {40, nil}, {40, []int{1, 39}}, {40, mostGates[:9]}} {
		for _, gate := range append(farNumbers(), 0, c.boards, c.boards+1, -c.boards) {
			name := fmt.Sprint(" ", c, gate)
			expectZero(t, "PutGate"+name, results(impl.PutGate(c.boards, c.gates, gate)))
			expectZero(t, "TakeGate"+name, results(impl.TakeGate(c.boards, c.gates, gate)))
		}
	}
	for _, gates := range [][]int{mostGates, lastGates, wideGates} {
		for gate := range 41 {
			expectZero(t, fmt.Sprint("PutGate ", gates, gate), results(impl.PutGate(40, gates, gate)))
		}
	}
}

func TestMirrorGates(t *testing.T) {
	for _, c := range []struct {
		boards        int
		gates, mirror []int
	}{
		{2, nil, nil}, {40, nil, nil}, {2, []int{1}, []int{1}}, {3, []int{1}, []int{2}}, {3, []int{1, 2}, []int{1, 2}}, {9, exampleGates(), []int{4, 6}}, {9, []int{1, 2, 4}, []int{5, 7, 8}}, {9, []int{3, 6}, []int{3, 6}}, {40, []int{1}, []int{39}}, {40, []int{20}, []int{20}}, {40, []int{1, 39}, []int{1, 39}}, {40, mostGates, lastGates}, {11, mostGates, mostGates}, {40, wideGates, stairs(10, 9, 3)},
	} {
		expect(t, fmt.Sprint("MirrorGates ", c), results(impl.MirrorGates(c.boards, c.gates)), c.mirror, true)
		expect(t, fmt.Sprint("MirrorGates ", c), results(impl.MirrorGates(c.boards, c.mirror)), c.gates, true)
	}
}

func TestGatesTexts(t *testing.T) {
	for _, c := range []struct {
		gates []int
		text  string
	}{
		{nil, ""}, {[]int{1}, "1"}, {[]int{9}, "9"}, {[]int{10}, "10"}, {[]int{39}, "39"}, {exampleGates(), "3|5"}, {[]int{1, 39}, "1|39"}, {[]int{1, 2, 10, 20}, "1|2|10|20"}, {mostGates, "1|2|3|4|5|6|7|8|9|10"}, {lastGates, "30|31|32|33|34|35|36|37|38|39"}, {wideGates, "4|7|10|13|16|19|22|25|28|31"},
	} {
		expect(t, "GatesText "+c.text, results(impl.GatesText(c.gates)), c.text, true)
		expect(t, "ParseGates "+c.text, results(impl.ParseGates(c.text)), c.gates, true)
	}
	expect(t, "GatesText", results(impl.GatesText([]int{})), "", true)
	for _, gates := range noGates(impl.MaxRow) {
		expectZero(t, fmt.Sprint("GatesText ", gates[:min(len(gates), 20)]), results(impl.GatesText(gates)))
	}
	for _, text := range noGatesTexts() {
		expectZero(t, fmt.Sprintf("ParseGates %.60q", text), results(impl.ParseGates(text)))
	}
}
