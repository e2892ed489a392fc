package tests

import (
	"fmt"
	"math"
	"math/rand"
	"reflect"
	"slices"
	"strings"
	"testing"

	"loop.example/g01373/impl"
)

// sizeCalls are all functions of boards and tints.
func sizeCalls(boards int, tints int, around bool) map[string][]any {
	calls := map[string][]any{
		"CountProper":  results(impl.CountProper(boards, tints, around)),
		"FirstProper":  results(impl.FirstProper(boards, tints, around)),
		"ProperOfRank": results(impl.ProperOfRank(boards, tints, around, 0)),
	}
	if around {
		calls["CountTurned"] = results(impl.CountTurned(boards, tints))
	} else {
		calls["CountAllTints"] = results(impl.CountAllTints(boards, tints))
		calls["CountMirrored"] = results(impl.CountMirrored(boards, tints))
	}
	return calls
}

// tintCalls are all functions of a fence and tints.
func tintCalls(fence string, tints int, around bool) map[string][]any {
	return map[string][]any{
		"RankOfProper":   results(impl.RankOfProper(fence, tints, around)),
		"NextProper":     results(impl.NextProper(fence, tints, around)),
		"FillProper":     results(impl.FillProper(fence, tints, around)),
		"CountFills":     results(impl.CountFills(fence, tints, around)),
		"FewestRepaints": results(impl.FewestRepaints(fence, tints, around)),
		"FirstRepainted": results(impl.FirstRepainted(fence, tints, around)),
	}
}

// turnCalls are all functions of a fence around alone.
func turnCalls(fence string) map[string][]any {
	return map[string][]any{
		"IsProper":  results(impl.IsProper(fence, true)),
		"TurnFence": results(impl.TurnFence(fence, 0)),
		"LeastTurn": results(impl.LeastTurn(fence)),
	}
}

func listedCalls(lists []string) map[string][]any {
	return map[string][]any{
		"CountListed": results(impl.CountListed(lists)),
		"FirstListed": results(impl.FirstListed(lists)),
	}
}

func costCalls(costs [][]int) map[string][]any {
	return map[string][]any{
		"LeastCost":     results(impl.LeastCost(costs)),
		"FirstCheapest": results(impl.FirstCheapest(costs)),
	}
}

// farNumbers are far from all that may be counted.
func farNumbers() []int {
	return []int{math.MinInt, math.MinInt + 1, -1 << 32, -1000, -1, 1000, 1 << 32, math.MaxInt - 1, math.MaxInt}
}

func TestInvalidSizes(t *testing.T) {
	for _, boards := range append(farNumbers(), 0, 21) {
		for _, around := range []bool{false, true} {
			expectAllZero(t, fmt.Sprint(boards), sizeCalls(boards, 3, around))
			expectAllZero(t, fmt.Sprint(boards), sizeCalls(boards, 0, around))
		}
	}
	for _, boards := range []int{1, 2} {
		for tints := 1; tints <= 5; tints++ {
			expectAllZero(t, fmt.Sprint(boards), sizeCalls(boards, tints, true))
		}
	}
	for _, tints := range append(farNumbers(), 0, 6) {
		for _, boards := range []int{3, 4, 20} {
			expectAllZero(t, fmt.Sprint(tints), sizeCalls(boards, tints, false))
			expectAllZero(t, fmt.Sprint(tints), sizeCalls(boards, tints, true))
		}
	}
	for _, rank := range farNumbers() {
		for _, around := range []bool{false, true} {
			expectZero(t, "ProperOfRank", results(impl.ProperOfRank(3, 3, around, rank)))
		}
	}
	expectZero(t, "ProperOfRank", results(impl.ProperOfRank(3, 3, false, 12)))
	expectZero(t, "ProperOfRank", results(impl.ProperOfRank(3, 3, true, 6)))
}

func TestInvalidTintedFences(t *testing.T) {
	for _, fence := range noFences() {
		for _, around := range []bool{false, true} {
			for _, tints := range []int{0, 1, 3, 5} {
				expectAllZero(t, fence, tintCalls(fence, tints, around))
			}
			expectZero(t, "IsProper "+fence, results(impl.IsProper(fence, around)))
		}
		expectAllZero(t, fence, turnCalls(fence))
		expectZero(t, "LongestProper "+fence, results(impl.LongestProper(fence)))
	}
	// These are fences, but not around.
	for _, fence := range []string{"a", ".", "e", "ab", "ba", "..", "a.", "aa"} {
		expectAllZero(t, fence, turnCalls(fence))
		for tints := 1; tints <= 5; tints++ {
			expectAllZero(t, fence, tintCalls(fence, tints, true))
		}
	}
	for _, tints := range append(farNumbers(), 0, 6) {
		for _, fence := range []string{"a", "ab", "abc", "a.c", "...", "abcdeabcdeabcdeabcde"} {
			expectAllZero(t, fence, tintCalls(fence, tints, false))
			expectAllZero(t, fence, tintCalls(fence, tints, true))
		}
	}
}

func TestInvalidTurns(t *testing.T) {
	for _, fence := range []string{"abc", "...", mostBoards} {
		for _, by := range append(farNumbers(), len(fence), len(fence)+1) {
			expectZero(t, "TurnFence "+fence, results(impl.TurnFence(fence, by)))
		}
	}
}

func TestInvalidColourLists(t *testing.T) {
	expectAllZero(t, "none", listedCalls(nil))
	expectAllZero(t, "none", listedCalls([]string{}))
	expectAllZero(t, "too many", listedCalls(slices.Repeat([]string{"abc"}, 21)))
	expectAllZero(t, "too many", listedCalls(slices.Repeat([]string{"abc"}, 5000)))
	for _, list := range []string{
		"", "aa", "ba", "aba", "abb", "edcba", "abcdee", "abcdef", "f", ".", "a.", ".a", "A", "aB", " ", "a b", "ab ", "a,b", "\x00", "\xff", "é",
		"aé", "`a", strings.Repeat("abcde", 2000), "a\n",
	} {
		expectAllZero(t, list, listedCalls([]string{list}))
		expectAllZero(t, list, listedCalls([]string{list, "a", "b"}))
		expectAllZero(t, list, listedCalls([]string{"abc", "ade", list}))
		expectAllZero(t, list, listedCalls([]string{"a", "a", list}))
	}
}

func TestInvalidCosts(t *testing.T) {
	row := []int{1, 2, 3}
	for _, costs := range [][][]int{
		nil, {}, {nil}, {{}}, {{}, {}}, {row, nil}, {nil, row}, {row, {}}, {row, {1, 2}}, {{1, 2}, row}, {row, row, {1, 2, 3, 4}}, {{1, 2, 3, 4, 5, 6}},
		{{1, 2, 3, 4, 5, 6}, {1, 2, 3, 4, 5, 6}}, slices.Repeat([][]int{row}, 21), slices.Repeat([][]int{{0}}, 5000), {make([]int, 5000)},
		{{1}, {2}, {}},
	} {
		expectAllZero(t, fmt.Sprint(costs), costCalls(costs))
	}
	for _, cost := range append(farNumbers(), 101) {
		for k := range 3 {
			wrong := slices.Clone(row)
			wrong[k] = cost
			expectAllZero(t, fmt.Sprint(wrong), costCalls([][]int{wrong}))
			expectAllZero(t, fmt.Sprint(wrong), costCalls([][]int{row, wrong, row}))
			expectAllZero(t, fmt.Sprint(wrong), costCalls([][]int{row, row, wrong}))
		}
	}
}

// TestColourArgumentsStay looks at the elements of lists and costs, and at what is behind them.
func TestColourArgumentsStay(t *testing.T) {
	r := rand.New(rand.NewSource(27))
	for range 200 {
		lists := append(randomLists(r, 30), "", "ba")
		costs := randomCosts(r, 30, 7, 100)
		listsBefore, costsBefore := slices.Clone(lists), fmt.Sprint(costs)
		for _, long := range []int{0, 1, r.Intn(20), 20, 21, 30} {
			tints := r.Intn(7)
			part := make([][]int, long, 30)
			bare := make([][]int, long)
			for i := range part {
				part[i], bare[i] = costs[i][:tints], slices.Clip(slices.Clone(costs[i][:tints]))
			}
			for name, got := range listedCalls(lists[:long]) {
				expect(t, name, got, listedCalls(slices.Clip(slices.Clone(lists[:long])))[name]...)
			}
			for name, got := range costCalls(part) {
				expect(t, name, got, costCalls(bare)[name]...)
			}
			for i := range part {
				if len(part[i]) != tints || long < 30 && part[:30][29] != nil {
					t.Fatal("rows of costs are changed")
				}
			}
		}
		if !reflect.DeepEqual(lists, listsBefore) || fmt.Sprint(costs) != costsBefore {
			t.Fatal("lists or costs are changed")
		}
	}
}

// TestColourAgain looks for anything kept from call to call.
func TestColourAgain(t *testing.T) {
	all := func() []map[string][]any {
		return []map[string][]any{
			sizeCalls(7, 3, false), sizeCalls(7, 3, true), tintCalls("abcab", 3, true), tintCalls("a.c.b", 4, false), turnCalls("cab"),
			listedCalls([]string{"ab", "abc", "b"}), costCalls([][]int{{1, 2}, {3, 0}}),
		}
	}
	want := all()
	for range 20 {
		if got := all(); !reflect.DeepEqual(got, want) {
			t.Fatalf("got %v, want %v", got, want)
		}
	}
}

// TestAnyColourArguments calls all functions with whatever comes: they return, with zero values where they fail.
func TestAnyColourArguments(t *testing.T) {
	r := rand.New(rand.NewSource(28))
	numbers := append(farNumbers(), 0, 1, 2, 3, 4, 5, 6, 19, 20, 21, 100, 101)
	texts := append(noFences(), ".", "a", "ab", "aba", "a.c", "abc", mostBoards, "abcdeabcdeabcdeabcde", "...", "acd", "ba")
	number := func() int { return numbers[r.Intn(len(numbers))] }
	for range 3000 {
		var lists []string
		var costs [][]int
		for range r.Intn(5) {
			lists = append(lists, texts[r.Intn(len(texts))])
			costs = append(costs, []int{number(), number(), number()}[:r.Intn(4)])
		}
		fence, around := texts[r.Intn(len(texts))], r.Intn(2) == 0
		calls := []map[string][]any{
			sizeCalls(number(), number(), around), tintCalls(fence, number(), around), turnCalls(fence), listedCalls(lists), costCalls(costs), {
				"ProperOfRank":  results(impl.ProperOfRank(number(), number(), around, number())),
				"TurnFence":     results(impl.TurnFence(fence, number())),
				"LongestProper": results(impl.LongestProper(fence)),
				"IsProper":      results(impl.IsProper(fence, around)),
			},
		}
		for _, kind := range calls {
			for name, got := range kind {
				if got[len(got)-1] == false {
					expectZero(t, name, got)
				}
			}
		}
	}
}
