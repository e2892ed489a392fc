package tests

import (
	"fmt"
	"slices"
	"strings"
	"testing"

	"loop.example/g01373/impl"
)

// Promise 6: no way climbs less or has fewer jumps, and who sees is seen.

// exampleHeights returns heights of which no test can spoil another one's.
func exampleHeights() []int {
	return []int{2, 5, 3, 3, 1}
}

// stairs returns so many numbers, each one higher than the one before by so much.
func stairs(many int, first int, by int) []int {
	numbers := make([]int, many)
	for i := range numbers {
		numbers[i] = first + i*by
	}
	return numbers
}

var (
	evenTops = times(impl.MaxBoards, 7)
	upwards  = stairs(impl.MaxBoards, 0, 2)
	downward = stairs(impl.MaxBoards, impl.MaxTall, -2)
	lowTops  = times(impl.MaxBoards, 0)
	highTops = times(impl.MaxBoards, impl.MaxTall)
	upDown   = slices.Repeat([]int{0, impl.MaxTall}, impl.MaxBoards/2)
	allTold  = stairs(impl.MaxBoards, 0, 1)
)

func TestCatConstants(t *testing.T) {
	if impl.MaxTall != 50 || impl.MaxReach != 20 {
		t.Error("limits", impl.MaxTall, impl.MaxReach)
	}
}

func TestCatExample(t *testing.T) {
	heights := exampleHeights()
	expect(t, "ParseHeights", results(impl.ParseHeights("2-5-3-3-1")), heights, true)
	expect(t, "LeastClimb", results(impl.LeastClimb(heights, 2)), 3, true)
	expect(t, "FirstLeastClimb", results(impl.FirstLeastClimb(heights, 2)), []int{0, 2, 3, 4}, true)
	expect(t, "EasiestClimb", results(impl.EasiestClimb(heights, 2)), 2, true)
	expect(t, "FewestJumps", results(impl.FewestJumps(heights, 2, 2)), 2, true)
	expect(t, "FirstFewestJumps", results(impl.FirstFewestJumps(heights, 2, 2)), []int{0, 2, 4}, true)
	expect(t, "CountCatWays", results(impl.CountCatWays(heights, 2, 2)), 2, true)
	expect(t, "ReachedBoards", results(impl.ReachedBoards(heights, 2, 2)), []int{0, 2, 3, 4}, true)
	expect(t, "NeededBoards", results(impl.NeededBoards(heights, 2, 2)), []int{0, 2, 4}, true)
	expect(t, "LongestDown", results(impl.LongestDown(heights, 2)), []int{1, 2, 4}, true)
	expect(t, "TopsOf", results(impl.TopsOf(heights)), []int{1}, true)
	expect(t, "HollowsOf", results(impl.HollowsOf(heights)), []int{0, 4}, true)
	expect(t, "SeenFrom", results(impl.SeenFrom(heights, 1)), []int{0, 2}, true)
	expect(t, "MostSeen", results(impl.MostSeen(heights)), 1, 2, true)
	expect(t, "SeenFromLeft", results(impl.SeenFromLeft(heights)), []int{0, 1}, true)
	// The console's example has these too.
	expect(t, "FewestJumps", results(impl.FewestJumps(heights, 2, 1)), 0, false)
	expect(t, "RaiseBoard", results(impl.RaiseBoard(heights, 4, 2)), []int{2, 5, 3, 3, 3}, true)
	expect(t, "FirstFewestJumps", results(impl.FirstFewestJumps([]int{2, 5, 3, 3, 3}, 2, 1)), []int{0, 2, 4}, true)
}

func TestAreHeights(t *testing.T) {
	for _, heights := range [][]int{{0}, {1}, {50}, {0, 0}, {50, 0, 50}, exampleHeights(), evenTops, upwards, downward, lowTops, highTops, upDown} {
		expect(t, fmt.Sprint("AreHeights ", heights), results(impl.AreHeights(heights)), true)
	}
	for _, heights := range noHeights() {
		expect(t, fmt.Sprint("AreHeights ", heights[:min(len(heights), 20)]), results(impl.AreHeights(heights)), false)
	}
}

// TestOneBoard has the cat on the last board from the start.
func TestOneBoard(t *testing.T) {
	for _, heights := range [][]int{{0}, {7}, {50}} {
		only := []int{0}
		for _, reach := range []int{1, 2, impl.MaxReach} {
			expect(t, "LeastClimb", results(impl.LeastClimb(heights, reach)), 0, true)
			expect(t, "FirstLeastClimb", results(impl.FirstLeastClimb(heights, reach)), only, true)
			expect(t, "EasiestClimb", results(impl.EasiestClimb(heights, reach)), 0, true)
			expect(t, "LongestDown", results(impl.LongestDown(heights, reach)), only, true)
			for _, climb := range []int{0, 1, impl.MaxTall} {
				expect(t, "FewestJumps", results(impl.FewestJumps(heights, reach, climb)), 0, true)
				expect(t, "FirstFewestJumps", results(impl.FirstFewestJumps(heights, reach, climb)), only, true)
				expect(t, "CountCatWays", results(impl.CountCatWays(heights, reach, climb)), 1, true)
				expect(t, "ReachedBoards", results(impl.ReachedBoards(heights, reach, climb)), only, true)
				expect(t, "NeededBoards", results(impl.NeededBoards(heights, reach, climb)), only, true)
				expect(t, "IsCatWay", results(impl.IsCatWay(heights, reach, climb, only)), true, true)
				for _, way := range [][]int{nil, {1}, {0, 0}, {0, 1}, {-1}} {
					expect(t, fmt.Sprint("IsCatWay ", way), results(impl.IsCatWay(heights, reach, climb, way)), false, true)
				}
			}
		}
		expect(t, "ClimbOf", results(impl.ClimbOf(heights, only)), 0, true)
		// Without a board beside it, it is higher than each one there, and lower.
		expect(t, "TopsOf", results(impl.TopsOf(heights)), only, true)
		expect(t, "HollowsOf", results(impl.HollowsOf(heights)), only, true)
		expect(t, "SeenFrom", results(impl.SeenFrom(heights, 0)), []int(nil), true)
		expect(t, "SeenFromLeft", results(impl.SeenFromLeft(heights)), only, true)
		expect(t, "MostSeen", results(impl.MostSeen(heights)), 0, 0, true)
		expect(t, "MirrorHeights", results(impl.MirrorHeights(heights)), heights, true)
	}
}

func TestIsCatWay(t *testing.T) {
	for _, c := range []struct {
		heights      []int
		reach, climb int
		way          []int
		isWay        bool
	}{
		{exampleHeights(), 2, 2, []int{0, 2, 4}, true}, {exampleHeights(), 2, 2, []int{0, 2, 3, 4}, true}, {exampleHeights(), 4, 1, []int{0, 4}, true}, {exampleHeights(), 1, 3, []int{0, 1, 2, 3, 4}, true},
		// One jump is too far, or climbs too much, up or down, at the start or at the end.
		{exampleHeights(), 3, 1, []int{0, 4}, false}, {exampleHeights(), 1, 3, []int{0, 2, 3, 4}, false}, {exampleHeights(), 1, 3, []int{0, 1, 2, 4}, false}, {exampleHeights(), 2, 1, []int{0, 2, 4}, false},
		{exampleHeights(), 1, 2, []int{0, 1, 2, 3, 4}, false}, {exampleHeights(), 3, 1, []int{0, 3, 4}, false}, {[]int{0, 5}, 1, 4, []int{0, 1}, false}, {[]int{5, 0}, 1, 4, []int{0, 1}, false}, {[]int{0, 5}, 1, 5, []int{0, 1}, true}, {[]int{5, 0}, 1, 5, []int{0, 1}, true},
		{[]int{50, 0}, 1, 50, []int{0, 1}, true}, {[]int{50, 0}, 1, 49, []int{0, 1}, false}, {[]int{3, 3}, 1, 0, []int{0, 1}, true}, {evenTops, 1, 0, allTold, true}, {evenTops, 18, 0, []int{0, 19}, false}, {evenTops, 19, 0, []int{0, 19}, true}, {evenTops, 20, 0, []int{0, 19}, true},
		{upwards, 20, 38, []int{0, 19}, true}, {upwards, 20, 37, []int{0, 19}, false}, {upDown, 1, 50, allTold, true}, {upDown, 1, 49, allTold, false}, {upDown, 2, 0, []int{0, 2, 4, 6, 8, 10, 12, 14, 16, 18, 19}, false},
	} {
		expect(t, fmt.Sprint("IsCatWay ", c), results(impl.IsCatWay(c.heights, c.reach, c.climb, c.way)), c.isWay, true)
	}
	for _, way := range noWays() {
		expect(t, fmt.Sprint("IsCatWay ", way[:min(len(way), 30)]), results(impl.IsCatWay(exampleHeights(), 20, 50, way)), false, true)
	}
}

func TestClimbOf(t *testing.T) {
	for _, c := range []struct {
		heights, way []int
		climb        int
	}{
		{exampleHeights(), []int{0, 4}, 1}, {exampleHeights(), []int{0, 2, 4}, 3}, {exampleHeights(), []int{0, 1, 4}, 7}, {exampleHeights(), []int{0, 1, 2, 3, 4}, 7}, {[]int{0, 50}, []int{0, 1}, 50}, {[]int{50, 0}, []int{0, 1}, 50}, {[]int{4, 4}, []int{0, 1}, 0},
		{evenTops, []int{0, 19}, 0}, {evenTops, allTold, 0}, {upwards, []int{0, 19}, 38}, {upwards, allTold, 38}, {downward, allTold, 38}, {downward, []int{0, 7, 19}, 38}, {upDown, allTold, 950}, {upDown, []int{0, 19}, 50}, {upDown, []int{0, 1, 2, 19}, 150},
	} {
		expect(t, fmt.Sprint("ClimbOf ", c), results(impl.ClimbOf(c.heights, c.way)), c.climb, true)
	}
	for _, way := range noWays() {
		expectZero(t, fmt.Sprint("ClimbOf ", way[:min(len(way), 30)]), results(impl.ClimbOf(exampleHeights(), way)))
	}
}

func TestLeastClimb(t *testing.T) {
	for _, c := range []struct {
		heights []int
		reach   int
		climb   int
		way     []int
	}{
		{exampleHeights(), 1, 7, []int{0, 1, 2, 3, 4}}, {exampleHeights(), 3, 3, []int{0, 2, 3, 4}}, {exampleHeights(), 4, 1, []int{0, 4}}, {exampleHeights(), 5, 1, []int{0, 4}}, {exampleHeights(), 20, 1, []int{0, 4}},
		// Of ways that are equally cheap the first one has the nearest boards.
		{evenTops, 1, 0, allTold}, {evenTops, 20, 0, allTold}, {lowTops, 20, 0, allTold}, {highTops, 20, 0, allTold}, {upwards, 1, 38, allTold}, {upwards, 20, 38, allTold}, {downward, 20, 38, allTold}, {[]int{0, 3, 2, 5}, 2, 5, []int{0, 1, 3}}, {[]int{0, 3, 2, 5}, 1, 7, []int{0, 1, 2, 3}},
		{[]int{0, 2, 3, 5}, 3, 5, []int{0, 1, 2, 3}}, {[]int{3, 9, 1, 3}, 2, 4, []int{0, 2, 3}}, {[]int{3, 1, 9, 3}, 2, 4, []int{0, 1, 3}}, {[]int{3, 5, 1, 3}, 2, 4, []int{0, 1, 3}}, {[]int{3, 1, 5, 3}, 2, 4, []int{0, 1, 3}},
		{upDown, 1, 950, allTold}, {upDown, 2, 50, []int{0, 1, 3, 5, 7, 9, 11, 13, 15, 17, 19}}, {upDown, 20, 50, []int{0, 1, 3, 5, 7, 9, 11, 13, 15, 17, 19}}, {[]int{0, 50, 0}, 1, 100, []int{0, 1, 2}}, {[]int{0, 50, 0}, 2, 0, []int{0, 2}},
		{[]int{50, 0}, 1, 50, []int{0, 1}}, {[]int{50, 50}, 20, 0, []int{0, 1}},
	} {
		name := fmt.Sprint(" ", c)
		expect(t, "LeastClimb"+name, results(impl.LeastClimb(c.heights, c.reach)), c.climb, true)
		expect(t, "FirstLeastClimb"+name, results(impl.FirstLeastClimb(c.heights, c.reach)), c.way, true)
	}
}

func TestFewestJumps(t *testing.T) {
	for _, c := range []struct {
		heights      []int
		reach, climb int
		way          []int
	}{
		{exampleHeights(), 1, 3, []int{0, 1, 2, 3, 4}}, {exampleHeights(), 4, 1, []int{0, 4}}, {exampleHeights(), 20, 1, []int{0, 4}}, {exampleHeights(), 3, 2, []int{0, 2, 4}}, {exampleHeights(), 3, 50, []int{0, 1, 4}}, {[]int{7, 7}, 1, 0, []int{0, 1}},
		// Of ways that are equally short the first one has the nearest boards.
		{evenTops, 1, 0, allTold}, {evenTops, 2, 0, []int{0, 1, 3, 5, 7, 9, 11, 13, 15, 17, 19}}, {evenTops, 10, 0, []int{0, 9, 19}}, {evenTops, 18, 0, []int{0, 1, 19}}, {evenTops, 19, 0, []int{0, 19}}, {evenTops, 20, 0, []int{0, 19}},
		{upwards, 20, 2, allTold}, {upwards, 20, 38, []int{0, 19}}, {upwards, 20, 37, []int{0, 1, 19}}, {upwards, 20, 20, []int{0, 9, 19}}, {downward, 20, 20, []int{0, 9, 19}}, {upDown, 1, 50, allTold}, {upDown, 19, 50, []int{0, 19}}, {upDown, 18, 50, []int{0, 1, 19}}, {lowTops, 7, 0, []int{0, 5, 12, 19}}, {highTops, 7, 50, []int{0, 5, 12, 19}},
	} {
		name := fmt.Sprint(" ", c)
		expect(t, "FewestJumps"+name, results(impl.FewestJumps(c.heights, c.reach, c.climb)), len(c.way)-1, true)
		expect(t, "FirstFewestJumps"+name, results(impl.FirstFewestJumps(c.heights, c.reach, c.climb)), c.way, true)
	}
}

// catTrack is what a cat jumps along.
type catTrack struct {
	heights      []int
	reach, climb int
}

// tracksWithout have no way at all; each one tells what is reached.
func tracksWithout() map[string]catTrack {
	return map[string]catTrack{
		"0": {[]int{0, 1}, 20, 0}, "0 1": {[]int{1, 2, 4}, 1, 1}, "0 1 2": {[]int{1, 2, 3, 9}, 3, 5}, "0 2": {[]int{4, 9, 4, 9}, 2, 4}, "0 2 3": {exampleHeights(), 2, 1},
		"0 2 4 6 8 10 12 14 16 18": {upDown, 2, 49}, "0 1 2 3 4 5 6 7 8 9 10 11 12 13 14 15 16 17 18": {append(times(19, 0), 50), 20, 49},
	}
}

func TestNoWay(t *testing.T) {
	for told, c := range tracksWithout() {
		name := fmt.Sprint(" ", c)
		expectZero(t, "FewestJumps"+name, results(impl.FewestJumps(c.heights, c.reach, c.climb)))
		expectZero(t, "FirstFewestJumps"+name, results(impl.FirstFewestJumps(c.heights, c.reach, c.climb)))
		expectZero(t, "NeededBoards"+name, results(impl.NeededBoards(c.heights, c.reach, c.climb)))
		// None is a number of ways, too.
		expect(t, "CountCatWays"+name, results(impl.CountCatWays(c.heights, c.reach, c.climb)), 0, true)
		var reached []int
		for _, text := range strings.Fields(told) {
			reached = append(reached, digits(text))
		}
		expect(t, "ReachedBoards"+name, results(impl.ReachedBoards(c.heights, c.reach, c.climb)), reached, true)
	}
}

func TestCountCatWays(t *testing.T) {
	for _, c := range []struct {
		heights      []int
		reach, climb int
		ways         int
	}{
		{exampleHeights(), 1, 3, 1}, {exampleHeights(), 2, 3, 5}, {exampleHeights(), 4, 50, 8}, {exampleHeights(), 20, 50, 8}, {exampleHeights(), 20, 0, 0}, {evenTops, 1, 0, 1}, {evenTops, 2, 0, 6765}, {evenTops, 18, 0, 1<<18 - 1}, {evenTops, 19, 0, 1 << 18}, {evenTops, 20, 0, 1 << 18},
		{upwards, 20, 2, 1}, {upwards, 20, 4, 6765}, {upwards, 20, 50, 1 << 18}, {downward, 20, 4, 6765}, {upDown, 20, 49, 0}, {upDown, 1, 50, 1}, {upDown, 20, 50, 1 << 18},
	} {
		expect(t, fmt.Sprint("CountCatWays ", c), results(impl.CountCatWays(c.heights, c.reach, c.climb)), c.ways, true)
	}
}

func TestReachedAndNeeded(t *testing.T) {
	for _, c := range []struct {
		heights         []int
		reach, climb    int
		reached, needed []int
	}{
		{exampleHeights(), 1, 3, []int{0, 1, 2, 3, 4}, []int{0, 1, 2, 3, 4}}, {exampleHeights(), 4, 1, []int{0, 2, 3, 4}, []int{0, 4}}, {exampleHeights(), 3, 2, []int{0, 2, 3, 4}, []int{0, 4}}, {exampleHeights(), 20, 50, []int{0, 1, 2, 3, 4}, []int{0, 4}},
		{evenTops, 1, 0, allTold, allTold}, {evenTops, 2, 0, allTold, []int{0, 19}}, {evenTops, 20, 50, allTold, []int{0, 19}}, {upwards, 20, 2, allTold, allTold}, {upwards, 20, 4, allTold, []int{0, 19}}, {[]int{0, 0}, 1, 0, []int{0, 1}, []int{0, 1}},
		// The board 1 is reached, and leads to no other one; the board 2 is on each way, and on some way the board 3.
		{[]int{4, 6, 3, 3, 2}, 2, 2, []int{0, 1, 2, 3, 4}, []int{0, 2, 4}}, {[]int{5, 9, 5, 9, 5}, 2, 3, []int{0, 2, 4}, []int{0, 2, 4}}, {[]int{5, 9, 5, 9, 5}, 2, 4, []int{0, 1, 2, 3, 4}, []int{0, 4}},
	} {
		name := fmt.Sprint(" ", c)
		expect(t, "ReachedBoards"+name, results(impl.ReachedBoards(c.heights, c.reach, c.climb)), c.reached, true)
		expect(t, "NeededBoards"+name, results(impl.NeededBoards(c.heights, c.reach, c.climb)), c.needed, true)
	}
}

func TestEasiestClimb(t *testing.T) {
	for _, c := range []struct {
		heights []int
		reach   int
		climb   int
	}{
		{exampleHeights(), 1, 3}, {exampleHeights(), 3, 2}, {exampleHeights(), 4, 1}, {exampleHeights(), 20, 1}, {evenTops, 1, 0}, {evenTops, 20, 0}, {lowTops, 1, 0}, {highTops, 1, 0}, {upwards, 1, 2}, {upwards, 20, 2}, {downward, 20, 2}, {upDown, 1, 50}, {upDown, 20, 50},
		{[]int{0, 50}, 1, 50}, {[]int{50, 0}, 20, 50}, {[]int{0, 49}, 20, 49}, {[]int{0, 50, 0}, 1, 50}, {[]int{0, 50, 0}, 2, 0}, {[]int{0, 25, 50}, 2, 25}, {[]int{0, 24, 50}, 2, 26}, {[]int{9, 3, 7, 1, 5}, 2, 2}, {[]int{9, 3, 7, 1, 6}, 2, 2}, {[]int{9, 3, 7, 1, 9}, 2, 2}, {[]int{9, 3, 6, 1, 9}, 2, 3},
	} {
		expect(t, fmt.Sprint("EasiestClimb ", c), results(impl.EasiestClimb(c.heights, c.reach)), c.climb, true)
	}
}

func TestLongestDown(t *testing.T) {
	for _, c := range []struct {
		heights []int
		reach   int
		list    []int
	}{
		{exampleHeights(), 1, []int{1, 2}}, {exampleHeights(), 3, []int{1, 2, 4}}, {exampleHeights(), 20, []int{1, 2, 4}}, {evenTops, 1, []int{0}}, {evenTops, 20, []int{0}}, {lowTops, 20, []int{0}}, {highTops, 20, []int{0}}, {upwards, 20, []int{0}}, {downward, 1, allTold}, {downward, 20, allTold},
		// Of lists that are equally long the first one begins farthest to the left, and has the nearest boards.
		{upDown, 1, []int{1, 2}}, {upDown, 20, []int{1, 2}}, {[]int{50, 0}, 1, []int{0, 1}}, {[]int{0, 50}, 1, []int{0}}, {[]int{5, 4, 3, 5, 4, 3}, 1, []int{0, 1, 2}}, {[]int{5, 4, 4, 3}, 3, []int{0, 1, 3}}, {[]int{5, 4, 4, 3}, 1, []int{0, 1}}, {[]int{9, 1, 8, 2, 7}, 2, []int{0, 2, 3}}, {[]int{9, 1, 8, 2, 7}, 1, []int{0, 1}},
		{[]int{3, 9, 2, 8, 1, 7}, 2, []int{0, 2, 4}}, {[]int{3, 9, 2, 8, 1, 7}, 3, []int{0, 2, 4}}, {[]int{1, 9, 8, 0, 7}, 3, []int{1, 2, 3}}, {[]int{4, 9, 1, 3, 2}, 2, []int{1, 3, 4}}, {[]int{4, 9, 1, 3, 2}, 3, []int{0, 3, 4}}, {[]int{3, 2, 9, 8, 7}, 20, []int{2, 3, 4}},
	} {
		expect(t, fmt.Sprint("LongestDown ", c), results(impl.LongestDown(c.heights, c.reach)), c.list, true)
	}
}

func TestTopsAndHollows(t *testing.T) {
	for _, c := range []struct{ heights, tops, hollows []int }{
		{[]int{1, 2}, []int{1}, []int{0}}, {[]int{2, 1}, []int{0}, []int{1}}, {[]int{50, 0, 50}, []int{0, 2}, []int{1}}, {[]int{0, 50, 0}, []int{1}, []int{0, 2}}, {upwards, []int{19}, []int{0}}, {downward, []int{0}, []int{19}},
		// Boards of one height beside each other are neither.
		{[]int{4, 4}, nil, nil}, {evenTops, nil, nil}, {lowTops, nil, nil}, {highTops, nil, nil}, {[]int{1, 2, 2, 1}, nil, []int{0, 3}}, {[]int{2, 1, 1, 2}, []int{0, 3}, nil}, {[]int{1, 1, 2}, []int{2}, nil}, {[]int{2, 2, 1}, nil, []int{2}}, {[]int{1, 2, 2}, nil, []int{0}}, {[]int{2, 1, 1}, []int{0}, nil}, {[]int{1, 1, 2, 1, 1}, []int{2}, nil},
		{upDown, []int{1, 3, 5, 7, 9, 11, 13, 15, 17, 19}, []int{0, 2, 4, 6, 8, 10, 12, 14, 16, 18}},
	} {
		expect(t, fmt.Sprint("TopsOf ", c), results(impl.TopsOf(c.heights)), c.tops, true)
		expect(t, fmt.Sprint("HollowsOf ", c), results(impl.HollowsOf(c.heights)), c.hollows, true)
	}
}

func TestSeenFrom(t *testing.T) {
	for _, c := range []struct {
		heights []int
		seen    [][]int
		left    []int
	}{
		{exampleHeights(), [][]int{{1}, {0, 2}, {1, 3}, {2, 4}, {3}}, []int{0, 1}}, {[]int{0, 0}, [][]int{{1}, {0}}, []int{0}}, {[]int{0, 50}, [][]int{{1}, {0}}, []int{0, 1}}, {[]int{50, 0}, [][]int{{1}, {0}}, []int{0}},
		// A board that is as high as one of both hides the other one.
		{[]int{4, 3, 4}, [][]int{{1, 2}, {0, 2}, {0, 1}}, []int{0}}, {[]int{4, 4, 4}, [][]int{{1}, {0, 2}, {1}}, []int{0}}, {[]int{4, 4, 5}, [][]int{{1}, {0, 2}, {1}}, []int{0, 2}}, {[]int{5, 4, 4}, [][]int{{1}, {0, 2}, {1}}, []int{0}}, {[]int{4, 5, 4}, [][]int{{1}, {0, 2}, {1}}, []int{0, 1}},
		{[]int{3, 2, 1, 3}, [][]int{{1, 3}, {0, 2, 3}, {1, 3}, {0, 1, 2}}, []int{0}}, {[]int{3, 1, 2, 3}, [][]int{{1, 2, 3}, {0, 2}, {0, 1, 3}, {0, 2}}, []int{0}}, {[]int{9, 1, 8, 1, 9}, [][]int{{1, 2, 4}, {0, 2}, {0, 1, 3, 4}, {2, 4}, {0, 2, 3}}, []int{0}}, {[]int{1, 3, 3, 2, 5}, [][]int{{1}, {0, 2}, {1, 3, 4}, {2, 4}, {2, 3}}, []int{0, 1, 4}},
	} {
		for board, seen := range c.seen {
			expect(t, fmt.Sprint("SeenFrom ", c.heights, board), results(impl.SeenFrom(c.heights, board)), seen, true)
		}
		expect(t, fmt.Sprint("SeenFromLeft ", c.heights), results(impl.SeenFromLeft(c.heights)), c.left, true)
	}
	// Between the first and the last one all boards are lower than both.
	valley := append(append([]int{50}, times(18, 0)...), 50)
	expect(t, "SeenFrom", results(impl.SeenFrom(valley, 0)), []int{1, 19}, true)
	expect(t, "SeenFrom", results(impl.SeenFrom(valley, 19)), []int{0, 18}, true)
	expect(t, "SeenFromLeft", results(impl.SeenFromLeft(valley)), []int{0}, true)
	expect(t, "SeenFromLeft", results(impl.SeenFromLeft(upwards)), allTold, true)
	expect(t, "SeenFromLeft", results(impl.SeenFromLeft(downward)), []int{0}, true)
	expect(t, "SeenFromLeft", results(impl.SeenFromLeft(lowTops)), []int{0}, true)
	expect(t, "SeenFrom", results(impl.SeenFrom(append([]int{50}, upwards[:19]...), 0)), allTold[1:], true)
}

func TestMostSeen(t *testing.T) {
	for _, c := range []struct {
		heights []int
		board   int
		most    int
	}{
		{[]int{3, 3}, 0, 1}, {[]int{0, 50}, 0, 1}, {evenTops, 1, 2}, {lowTops, 1, 2}, {highTops, 1, 2}, {upwards, 1, 2}, {downward, 1, 2}, {[]int{4, 3, 4}, 0, 2}, {[]int{9, 1, 8, 1, 9}, 2, 4}, {[]int{3, 2, 1, 3}, 1, 3}, {[]int{3, 1, 2, 3}, 0, 3}, {[]int{1, 3, 3, 2, 5}, 2, 3},
		{append([]int{50}, upwards[:19]...), 0, 19}, {append(slices.Clone(downward[1:]), 50), 19, 19}, {upDown, 3, 4},
	} {
		expect(t, fmt.Sprint("MostSeen ", c), results(impl.MostSeen(c.heights)), c.board, c.most, true)
	}
}

func TestRaiseBoard(t *testing.T) {
	for _, c := range []struct {
		heights   []int
		board, by int
		raised    []int
	}{
		{[]int{0}, 0, 0, []int{0}}, {[]int{0}, 0, 50, []int{50}}, {[]int{50}, 0, -50, []int{0}}, {[]int{50}, 0, 0, []int{50}}, {[]int{7}, 0, 43, []int{50}}, {[]int{7}, 0, -7, []int{0}}, {[]int{49}, 0, 1, []int{50}}, {[]int{1}, 0, -1, []int{0}},
		{exampleHeights(), 0, 1, []int{3, 5, 3, 3, 1}}, {exampleHeights(), 1, -5, []int{2, 0, 3, 3, 1}}, {exampleHeights(), 4, 49, []int{2, 5, 3, 3, 50}}, {exampleHeights(), 2, 0, exampleHeights()}, {lowTops, 19, 50, append(times(19, 0), 50)}, {highTops, 0, -50, append([]int{0}, times(19, 50)...)},
	} {
		expect(t, fmt.Sprint("RaiseBoard ", c), results(impl.RaiseBoard(c.heights, c.board, c.by)), c.raised, true)
	}
	for _, c := range []struct {
		heights   []int
		board, by int
	}{
		{[]int{0}, 0, -1}, {[]int{0}, 0, -50}, {[]int{50}, 0, 1}, {[]int{50}, 0, 50}, {[]int{7}, 0, 44}, {[]int{7}, 0, -8}, {exampleHeights(), 1, 46}, {exampleHeights(), 1, -6}, {lowTops, 19, -1}, {highTops, 19, 1},
		// By more than MaxTall no board is raised, and none that there is not.
		{[]int{0}, 0, 51}, {[]int{50}, 0, -51}, {[]int{0}, 1, 1}, {[]int{0}, -1, 1}, {exampleHeights(), 5, 0}, {exampleHeights(), -1, 0}, {highTops, 20, 0},
	} {
		expectZero(t, fmt.Sprint("RaiseBoard ", c), results(impl.RaiseBoard(c.heights, c.board, c.by)))
	}
}

func TestMirrorHeights(t *testing.T) {
	for _, c := range [][2][]int{{{1, 2}, {2, 1}}, {exampleHeights(), {1, 3, 3, 5, 2}}, {evenTops, evenTops}, {{0, 50, 0}, {0, 50, 0}}, {upwards, stairs(20, 38, -2)}, {downward, stairs(20, 12, 2)}} {
		expect(t, fmt.Sprint("MirrorHeights ", c[0]), results(impl.MirrorHeights(c[0])), c[1], true)
		expect(t, fmt.Sprint("MirrorHeights ", c[1]), results(impl.MirrorHeights(c[1])), c[0], true)
	}
}

func TestHeightsTexts(t *testing.T) {
	for _, c := range []struct {
		heights []int
		text    string
	}{
		{[]int{0}, "0"}, {[]int{9}, "9"}, {[]int{10}, "10"}, {[]int{50}, "50"}, {[]int{0, 0}, "0-0"}, {[]int{0, 50}, "0-50"}, {[]int{20, 3, 0}, "20-3-0"}, {exampleHeights(), "2-5-3-3-1"}, {lowTops, strings.Repeat("0-", 19) + "0"}, {highTops, strings.Repeat("50-", 19) + "50"},
		{upwards, "0-2-4-6-8-10-12-14-16-18-20-22-24-26-28-30-32-34-36-38"},
	} {
		expect(t, "HeightsText "+c.text, results(impl.HeightsText(c.heights)), c.text, true)
		expect(t, "ParseHeights "+c.text, results(impl.ParseHeights(c.text)), c.heights, true)
	}
	for _, text := range noHeightsTexts() {
		expectZero(t, fmt.Sprintf("ParseHeights %.60q", text), results(impl.ParseHeights(text)))
	}
}
