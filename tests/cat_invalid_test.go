package tests

import (
	"fmt"
	"math"
	"math/rand"
	"slices"
	"strings"
	"testing"
	"testing/synctest"

	"loop.example/g01373/impl"
)

// Promise 11 for chapter 6.

// noHeights are lists that are no heights, with one thing wrong each.
func noHeights() [][]int {
	lists := [][]int{nil, {}, times(impl.MaxBoards+1, 0), times(impl.MaxBoards+1, impl.MaxTall), make([]int, 5000)}
	for _, wrong := range append(farNumbers(), -impl.MaxTall, impl.MaxTall+1, 1<<32+1) {
		lists = append(lists, []int{wrong}, []int{wrong, 0}, []int{0, wrong}, []int{50, wrong, 50}, append(times(impl.MaxBoards-1, 3), wrong), times(impl.MaxBoards, wrong))
	}
	return lists
}

// noHeightsTexts are those of other numbers, without the ones that have a 0, which is a height.
func noHeightsTexts() []string {
	texts := slices.DeleteFunc(noNumbersTexts(impl.MaxBoards, impl.MaxTall), func(text string) bool {
		return slices.Contains([]string{"0", "1-0", "0-1", strings.Repeat("1-", impl.MaxBoards-1) + "0"}, text)
	})
	return append(texts, "-0", "+0", "0-", "-0-0", "0--0", "0-00", "00-0", "0-51", "51-0", "0,0", "0 0", "o", strings.Repeat("0-", impl.MaxBoards)+"0", strings.Repeat("0-", 10000)+"0")
}

// noWays are lists that are no ways along five boards, however far and high a cat jumps.
func noWays() [][]int {
	ways := [][]int{
		nil, {}, {0}, {4}, {2}, make([]int, 5000),
		// Ones that do not begin at 0, or end before the last board, or beyond it.
		{1, 4}, {1, 2, 3, 4}, {0, 3}, {0, 1, 2, 3}, {0, 5}, {0, 4, 5}, {0, 1, 2, 3, 4, 5}, {-1, 0, 4}, {-1, 4},
		// Ones that go back, or stay.
		{0, 2, 1, 4}, {0, 3, 2, 4}, {4, 0}, {4, 3, 2, 1, 0}, {0, 4, 0, 4}, {0, 4, 2, 4}, {0, 0}, {0, 0, 4}, {0, 4, 4}, {0, 2, 2, 4}, {0, 1, 1, 1, 4}, {0, -1, 4}, {0, 5, 4}, {0, 20, 4},
	}
	for _, far := range farNumbers() {
		ways = append(ways, []int{far}, []int{far, 4}, []int{0, far}, []int{0, far, 4}, []int{0, 4, far}, []int{0, 2, far, 4}, []int{far, far})
	}
	return append(ways, []int{0, math.MinInt, math.MaxInt, 4}, []int{0, 1 << 32, 4}, []int{0, 1<<32 + 4}, []int{1 << 32, 4})
}

// heightCalls are all functions of heights alone.
func heightCalls(heights []int) map[string][]any {
	return map[string][]any{
		"TopsOf":        results(impl.TopsOf(heights)),
		"HollowsOf":     results(impl.HollowsOf(heights)),
		"SeenFromLeft":  results(impl.SeenFromLeft(heights)),
		"MostSeen":      results(impl.MostSeen(heights)),
		"MirrorHeights": results(impl.MirrorHeights(heights)),
		"HeightsText":   results(impl.HeightsText(heights)),
	}
}

// reachCalls are all functions of heights and a reach.
func reachCalls(heights []int, reach int) map[string][]any {
	return map[string][]any{
		"LeastClimb":      results(impl.LeastClimb(heights, reach)),
		"FirstLeastClimb": results(impl.FirstLeastClimb(heights, reach)),
		"EasiestClimb":    results(impl.EasiestClimb(heights, reach)),
		"LongestDown":     results(impl.LongestDown(heights, reach)),
	}
}

// climbCalls are all functions of heights, a reach and a climb.
func climbCalls(heights []int, reach int, climb int) map[string][]any {
	return map[string][]any{
		"FewestJumps":      results(impl.FewestJumps(heights, reach, climb)),
		"FirstFewestJumps": results(impl.FirstFewestJumps(heights, reach, climb)),
		"CountCatWays":     results(impl.CountCatWays(heights, reach, climb)),
		"ReachedBoards":    results(impl.ReachedBoards(heights, reach, climb)),
		"NeededBoards":     results(impl.NeededBoards(heights, reach, climb)),
	}
}

// boardCalls are all functions of heights and a board.
func boardCalls(heights []int, board int, by int) map[string][]any {
	return map[string][]any{
		"SeenFrom":   results(impl.SeenFrom(heights, board)),
		"RaiseBoard": results(impl.RaiseBoard(heights, board, by)),
	}
}

// allCatCalls are all functions with a list as an argument.
func allCatCalls(heights []int, way []int, a int, b int) []map[string][]any {
	return []map[string][]any{
		heightCalls(heights), reachCalls(heights, a), climbCalls(heights, a, b), boardCalls(heights, a, b), {
			"AreHeights": results(impl.AreHeights(heights)),
			"IsCatWay":   results(impl.IsCatWay(heights, a, b, way)),
			"ClimbOf":    results(impl.ClimbOf(heights, way)),
		},
	}
}

func TestInvalidHeights(t *testing.T) {
	for _, heights := range noHeights() {
		name := fmt.Sprint(heights[:min(len(heights), 20)])
		for _, number := range []int{0, 1, 2, 20, 50, -1} {
			for _, way := range [][]int{nil, {0}, {0, 1}, {0, max(0, len(heights)-1)}} {
				for _, calls := range allCatCalls(heights, way, number, number) {
					expectAllZero(t, name, calls)
				}
			}
		}
	}
}

func TestInvalidReachAndClimb(t *testing.T) {
	for _, heights := range [][]int{{0}, {50}, {0, 50}, exampleHeights(), evenTops, upDown} {
		way := stairs(len(heights), 0, 1)
		for _, reach := range append(farNumbers(), 0, impl.MaxReach+1) {
			name := fmt.Sprint(heights, reach)
			expectAllZero(t, name, reachCalls(heights, reach))
			for _, climb := range []int{0, impl.MaxTall, reach} {
				expectAllZero(t, name, climbCalls(heights, reach, climb))
				expectZero(t, "IsCatWay "+name, results(impl.IsCatWay(heights, reach, climb, way)))
			}
		}
		for _, climb := range append(farNumbers(), impl.MaxTall+1) {
			name := fmt.Sprint(heights, climb)
			for _, reach := range []int{1, impl.MaxReach, climb} {
				expectAllZero(t, name, climbCalls(heights, reach, climb))
				expectZero(t, "IsCatWay "+name, results(impl.IsCatWay(heights, reach, climb, way)))
			}
		}
	}
}

func TestInvalidBoards(t *testing.T) {
	for _, heights := range [][]int{{0}, {50}, exampleHeights(), evenTops} {
		for _, board := range append(farNumbers(), len(heights), len(heights)+1) {
			for _, by := range []int{-50, -1, 0, 1, 50, board} {
				expectAllZero(t, fmt.Sprint(heights, board, by), boardCalls(heights, board, by))
			}
		}
		// By as much as this no board is raised, however high it is.
		for _, by := range []int{math.MinInt, math.MinInt + 1, -1 << 32, -1000, -impl.MaxTall - 1, impl.MaxTall + 1, 1000, 1 << 32, math.MaxInt - 1, math.MaxInt} {
			expectZero(t, fmt.Sprint("RaiseBoard ", heights, by), results(impl.RaiseBoard(heights, 0, by)))
		}
	}
}

// TestCatArgumentsStay looks at the elements of lists, and at what is behind them.
func TestCatArgumentsStay(t *testing.T) {
	r := rand.New(rand.NewSource(66))
	for range 300 {
		heights := randomHeights(r, 30)
		way := stairs(30, 0, 1+r.Intn(2))
		boards, long := r.Intn(23), r.Intn(23)
		if r.Intn(2) == 0 && boards > 0 {
			way[max(long, 1)-1] = boards - 1
		}
		reach, climb := 1+r.Intn(6), r.Intn(12)
		before := slices.Concat(heights, way)
		got := allCatCalls(heights[:boards], way[:long], reach, climb)
		if !slices.Equal(slices.Concat(heights, way), before) {
			t.Fatal("an argument is changed")
		}
		bare := func(list []int) []int { return slices.Clip(slices.Clone(list)) }
		want := allCatCalls(bare(heights[:boards]), bare(way[:long]), reach, climb)
		for i, calls := range got {
			for name, call := range calls {
				expect(t, name, call, want[i][name]...)
			}
		}
	}
}

// TestCatResultsAreNew spoils the results of a call: neither its arguments nor the next call's results may show it.
func TestCatResultsAreNew(t *testing.T) {
	heights, way := exampleHeights(), []int{0, 2, 4}
	again := func() []map[string][]any {
		return append(allCatCalls(heights, way, 2, 2), boardCalls(heights, 2, 0), map[string][]any{"ParseHeights": results(impl.ParseHeights("2-5-3-3-1"))})
	}
	expectNew(t, [][]int{heights, way}, again)
}

// TestCatsLeaveNobodyWaiting fails if a goroutine is left when all calls have returned: it would wait for ever.
func TestCatsLeaveNobodyWaiting(t *testing.T) {
	synctest.Test(t, func(t *testing.T) {
		for _, heights := range [][]int{{0}, {50, 0}, exampleHeights(), evenTops, upDown, nil} {
			for _, reach := range []int{1, 2, impl.MaxReach, 0} {
				for _, way := range [][]int{{0}, {0, 1}, {0, 1, 4}, {0, 19}, {0, 1, 2, 1}, {0, 5, 4}} {
					allCatCalls(heights, way, reach, 2)
					allCatCalls(heights, way, reach, impl.MaxTall)
				}
			}
		}
	})
}

// TestHeightsAreFree writes heights as soon as a call has returned: by go test -race it fails if somebody still reads them.
func TestHeightsAreFree(t *testing.T) {
	heights := make([]int, impl.MaxBoards)
	for height := range impl.MaxTall {
		for board := range heights {
			heights[board] = height
		}
		expect(t, "IsCatWay", results(impl.IsCatWay(heights, impl.MaxReach, 0, allTold)), true, true)
		for board := range heights {
			heights[board] = impl.MaxTall - height
		}
		expect(t, "FirstLeastClimb", results(impl.FirstLeastClimb(heights, impl.MaxReach)), allTold, true)
	}
}

// TestAnyCatArguments calls all functions with whatever comes: they return, with zero values where they fail.
func TestAnyCatArguments(t *testing.T) {
	r := rand.New(rand.NewSource(67))
	numbers := append(farNumbers(), 0, 1, 2, 3, 4, 5, 19, 20, 21, 49, 50, 51, -50, -51)
	texts := append(noHeightsTexts(), "0", "50", "2-5-3-3-1")
	number := func() int { return numbers[r.Intn(len(numbers))] }
	for range 3000 {
		heights := anyList(r, impl.MaxBoards, impl.MaxTall, numbers)
		if r.Intn(2) == 0 {
			heights = randomHeights(r, 1+r.Intn(impl.MaxBoards))
		}
		calls := append(allCatCalls(heights, anyList(r, 5, 19, numbers), number(), number()), map[string][]any{
			"ParseHeights": results(impl.ParseHeights(texts[r.Intn(len(texts))])),
		})
		expectZeroIfFailed(t, calls)
	}
}
