package tests

import (
	"fmt"
	"math"
	"math/rand"
	"slices"
	"testing"

	"loop.example/g01373/impl"
)

// Promise 11 for chapter 4.

func noRails() [][]int {
	return noNumbers(impl.MaxRails, impl.MaxLong)
}

func noRailsTexts() []string {
	return noNumbersTexts(impl.MaxRails, impl.MaxLong)
}

// noLengths are numbers that are none in 1..MaxLong.
func noLengths() []int {
	return append(farNumbers(), 0, impl.MaxLong+1)
}

// noCuts are lists that are no cuts of 5-4-3-3 from bars of 8.
func noCuts() [][]int {
	cuts := [][]int{
		nil, {}, {0}, {0, 1, 0}, {0, 1, 0, 1, 0}, {0, 1, 0, 1, 2}, make([]int, 5000),
		// Overfull ones.
		{0, 0, 1, 1}, {0, 0, 0, 0}, {0, 1, 1, 1}, {0, 1, 0, 0}, {1, 0, 0, 0}, {2, 2, 1, 0},
		// Ones with a bar left out.
		{1, 2, 1, 2}, {0, 2, 0, 2}, {0, 1, 0, 3}, {3, 1, 2, 1}, {1, 1, 1, 1}, {4, 3, 2, 1}, {0, 1, 2, 4}, {7, 7, 7, 7}, {0, 1, 0, 8}, {8, 1, 2, 0},
		{-1, 0, 0, 1}, {0, -1, 1, 0}, {0, 1, 0, -1}, {-1, -1, -1, -1}, {-1, -2, -1, -2}, {-1, 0, -1, 0},
	}
	for _, far := range farNumbers() {
		cuts = append(cuts, []int{far, 1, 0, 1}, []int{0, 1, 0, far}, []int{0, far, 1, 0}, times(4, far), []int{far})
	}
	return cuts
}

// noGrounds are lists that are no ground, with one thing wrong each.
func noGrounds() [][]int {
	grounds := [][]int{nil, {}, {0}, {50}, times(13, 0), times(13, 50), make([]int, 5000)}
	for _, wrong := range append(farNumbers(), -50, 51, 1<<32+1) {
		grounds = append(grounds, []int{wrong, 0}, []int{0, wrong}, []int{50, wrong, 50}, append(times(11, 3), wrong), times(12, wrong))
	}
	return grounds
}

// postCalls are all functions of a length and a gap.
func postCalls(long int, gap int) map[string][]any {
	return map[string][]any{
		"FewestPosts":   results(impl.FewestPosts(long, gap)),
		"PlacesOfPosts": results(impl.PlacesOfPosts(long, gap)),
		"EvenGap":       results(impl.EvenGap(long, gap)),
		"WholePlaces":   results(impl.WholePlaces(long, gap)),
		"GapAround":     results(impl.GapAround(long, gap)),
	}
}

// threeCalls are all functions of three lengths.
func threeCalls(a int, b int, c int) map[string][]any {
	return map[string][]any{
		"PostsAround": results(impl.PostsAround(a, b, c)),
		"SharedHoles": results(impl.SharedHoles(a, b, c)),
		"CountHoles":  results(impl.CountHoles(a, b, c)),
	}
}

// barCalls are all functions of rails and the length of bars.
func barCalls(rails []int, bar int) map[string][]any {
	return map[string][]any{
		"FewestBars": results(impl.FewestBars(rails, bar)),
		"FirstCut":   results(impl.FirstCut(rails, bar)),
		"FirstFit":   results(impl.FirstFit(rails, bar)),
	}
}

func cutCalls(rails []int, bar int, cut []int) map[string][]any {
	return map[string][]any{
		"IsCut":      results(impl.IsCut(rails, bar, cut)),
		"RestsOfCut": results(impl.RestsOfCut(rails, bar, cut)),
	}
}

// groundCalls are all functions of ground; the first number is a gap, the other one a difference.
func groundCalls(ground []int, gap int, most int) map[string][]any {
	return map[string][]any{
		"SquaresOfRails": results(impl.SquaresOfRails(ground, gap)),
		"WholeRails":     results(impl.WholeRails(ground, gap)),
		"LevelSteps":     results(impl.LevelSteps(ground, most)),
	}
}

func TestInvalidLengths(t *testing.T) {
	for _, wrong := range noLengths() {
		for _, fine := range []int{1, 7, impl.MaxLong, wrong} {
			name := fmt.Sprint(wrong, fine)
			expectAllZero(t, name, postCalls(wrong, fine))
			expectAllZero(t, name, postCalls(fine, wrong))
			for _, other := range []int{1, 500, wrong} {
				expectAllZero(t, name, threeCalls(wrong, fine, other))
				expectAllZero(t, name, threeCalls(fine, wrong, other))
				expectAllZero(t, name, threeCalls(fine, other, wrong))
			}
		}
		expectZero(t, fmt.Sprint("FirstRails ", wrong), results(impl.FirstRails(wrong)))
	}
}

func TestInvalidRails(t *testing.T) {
	for _, rails := range noRails() {
		name := fmt.Sprint(rails[:min(len(rails), 20)])
		for _, bar := range []int{1, 8, impl.MaxLong, 0} {
			expectAllZero(t, name, barCalls(rails, bar))
			for _, cut := range [][]int{nil, {0}, make([]int, len(rails))} {
				expectAllZero(t, name, cutCalls(rails, bar, cut))
			}
		}
		for _, bars := range []int{1, 3, impl.MaxRails, 0} {
			expectZero(t, "LeastBar "+name, results(impl.LeastBar(rails, bars)))
		}
		expectZero(t, "RailsText "+name, results(impl.RailsText(rails)))
	}
}

func TestInvalidBars(t *testing.T) {
	for _, rails := range [][]int{{1}, {5, 4, 3, 3}, times(8, 1), times(8, 500)} {
		for _, bar := range noLengths() {
			name := fmt.Sprint(rails, bar)
			expectAllZero(t, name, barCalls(rails, bar))
			// Bars of their own for all rails, and one bar.
			own := []int{0, 1, 2, 3, 4, 5, 6, 7}[:len(rails)]
			for _, cut := range [][]int{own, make([]int, len(rails)), nil} {
				expectAllZero(t, name, cutCalls(rails, bar, cut))
			}
		}
		for _, bars := range append(farNumbers(), 0, impl.MaxRails+1) {
			expectZero(t, fmt.Sprint("LeastBar ", rails, bars), results(impl.LeastBar(rails, bars)))
		}
	}
}

// TestCutSumsWrap has rails whose sum would be short enough only because it wraps around, or because of a rail that is less than 0.
func TestCutSumsWrap(t *testing.T) {
	for _, rails := range [][]int{{math.MaxInt, math.MaxInt, 5}, {math.MinInt, math.MinInt, 5}, {1 << 62, 1 << 62, 1 << 62, 1 << 62}, {10, -5}, {-5, 10}, {5, 0}} {
		expectAllZero(t, fmt.Sprint(rails), cutCalls(rails, 8, make([]int, len(rails))))
		expectAllZero(t, fmt.Sprint(rails), barCalls(rails, 8))
	}
}

func TestInvalidGround(t *testing.T) {
	for _, ground := range noGrounds() {
		name := fmt.Sprint(ground[:min(len(ground), 20)])
		for _, fine := range []int{1, 4, 50} {
			expectAllZero(t, name, groundCalls(ground, fine, fine))
		}
		expectAllZero(t, name, groundCalls(ground, impl.MaxLong, 0))
		expectAllZero(t, name, groundCalls(ground, 0, -1))
	}
	for _, ground := range [][]int{{0, 0}, {0, 3, 3}, times(12, 50)} {
		for _, gap := range noLengths() {
			expectZero(t, "SquaresOfRails", results(impl.SquaresOfRails(ground, gap)))
			expectZero(t, "WholeRails", results(impl.WholeRails(ground, gap)))
		}
		for _, most := range append(farNumbers(), impl.MaxGround+1) {
			expectZero(t, "LevelSteps", results(impl.LevelSteps(ground, most)))
		}
	}
}

// allPostCalls are all functions with a list as an argument.
func allPostCalls(rails []int, cut []int, ground []int, bar int) []map[string][]any {
	return []map[string][]any{
		barCalls(rails, bar), cutCalls(rails, bar, cut), groundCalls(ground, 4, 3), {
			"AreRails":  results(impl.AreRails(rails)),
			"LeastBar":  results(impl.LeastBar(rails, 3)),
			"RailsText": results(impl.RailsText(rails)),
		},
	}
}

// TestPostArgumentsStay looks at the elements of lists, and at what is behind them.
func TestPostArgumentsStay(t *testing.T) {
	r := rand.New(rand.NewSource(48))
	for range 300 {
		rails, cut, ground := make([]int, 20), make([]int, 20), make([]int, 20)
		for i := range 20 {
			rails[i], cut[i], ground[i] = 1+r.Intn(9), r.Intn(3), r.Intn(51)
		}
		many, heights, bar := r.Intn(10), r.Intn(15), 5+r.Intn(20)
		before := slices.Concat(rails, cut, ground)
		got := allPostCalls(rails[:many], cut[:many], ground[:heights], bar)
		if !slices.Equal(slices.Concat(rails, cut, ground), before) {
			t.Fatal("an argument is changed")
		}
		bare := func(list []int) []int { return slices.Clip(slices.Clone(list)) }
		want := allPostCalls(bare(rails[:many]), bare(cut[:many]), bare(ground[:heights]), bar)
		for i, calls := range got {
			for name, call := range calls {
				expect(t, name, call, want[i][name]...)
			}
		}
	}
}

// TestPostResultsAreNew spoils the results of a call: neither its arguments nor the next call's results may show it.
func TestPostResultsAreNew(t *testing.T) {
	rails, cut, ground := []int{5, 4, 3, 3}, []int{0, 1, 0, 1}, []int{3, 3, 3, 3}
	again := func() []map[string][]any {
		return append(allPostCalls(rails, cut, ground, 8), postCalls(10, 4), threeCalls(12, 2, 3), map[string][]any{
			"FirstRails": results(impl.FirstRails(30)),
			"ParseRails": results(impl.ParseRails("5-4-3-3")),
		})
	}
	expectNew(t, [][]int{rails, cut, ground}, again)
}

func TestFirstRailsApart(t *testing.T) {
	expectApart(t, map[string]func() ([][]int, bool){
		"FirstRails": func() ([][]int, bool) { return impl.FirstRails(50) },
	})
}

// TestAnyPostArguments calls all functions with whatever comes: they return, with zero values where they fail.
func TestAnyPostArguments(t *testing.T) {
	r := rand.New(rand.NewSource(49))
	numbers := append(farNumbers(), 0, 1, 2, 3, 4, 7, 8, 9, 12, 50, 51, 499, 500, 501)
	texts := append(noRailsTexts(), "1", "500", "5-4-3-3")
	number := func() int { return numbers[r.Intn(len(numbers))] }
	list := func(long int, most int) []int { return anyList(r, long, most, numbers) }
	for range 3000 {
		rails, cut, ground := list(8, 12), list(8, 3), list(12, 50)
		calls := append(allPostCalls(rails, cut, ground, number()), postCalls(number(), number()), threeCalls(number(), number(), number()),
			groundCalls(ground, number(), number()), map[string][]any{
				"LeastBar":   results(impl.LeastBar(rails, number())),
				"ParseRails": results(impl.ParseRails(texts[r.Intn(len(texts))])),
			})
		expectZeroIfFailed(t, calls)
	}
}
