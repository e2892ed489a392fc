package tests

import (
	"fmt"
	"math"
	"math/rand"
	"slices"
	"strings"
	"testing"

	"loop.example/g01373/impl"
)

// Promise 11 for chapter 5.

func noYards() []string {
	return []string{
		"", allBroken + "x", allSound + "o", inTurn + "x", strings.Repeat("x", 5000), strings.Repeat("o", 1<<16), " ", "X", "O", "0", ".", "a", "-", "/", "\x00", "x x", " x", "x ", "xo\n", "\nxo",
		"xoX", "Oxo", "xo0", "xo.", "xao", "xoox?", "é", "xé", "éx", "ｘ", "х", "о", "\xff", "x\xff", "\xffo", "x\xc3", "x\x00o", allBroken[1:] + "y", "n" + allSound[1:], allBroken[1:] + "é", allBroken[1:] + "\x00", allBroken + "\n",
	}
}

// noPatches are lists that are no patches of a yard with so many boards.
func noPatches(boards int) [][]int {
	patches := [][]int{nil, {}, {0}, {boards - 1}, {0, 0, 0}, {0, boards - 1, boards - 1}, {0, boards}, {boards, boards}, {1, 0}, {boards - 1, 0}, {boards, 0}, {-1, 0}, {-1, -1}, {0, -1}, {-1, boards}, {boards, boards + 1}, make([]int, 5000)}
	for _, far := range farNumbers() {
		patches = append(patches, []int{far, 0}, []int{0, far}, []int{far, far}, []int{far}, []int{0, 0, far})
	}
	return append(patches, []int{math.MinInt, math.MaxInt}, []int{math.MaxInt, math.MinInt}, []int{1 << 32, 1<<32 + 1})
}

// noBroken are lists that are none of broken boards of so many.
func noBroken(boards int) [][]int {
	lists := [][]int{{boards}, {0, 0}, {boards - 1, boards - 1}, {0, boards}, {boards - 1, 0}, {0, 1, 1}, {0, 0, 1}, {1, 0}, {0, 2, 1}, {0, boards - 1, 0}, times(boards+1, 0), make([]int, 5000)}
	for _, far := range farNumbers() {
		lists = append(lists, []int{far}, []int{0, far}, []int{far, 0}, []int{far, far}, []int{far, boards - 1})
	}
	all := make([]int, boards+1)
	for board := range all {
		all[board] = board
	}
	return append(lists, all, slices.Insert(slices.Clone(all[:boards]), 0, -1))
}

// yardCalls are all functions of a yard alone.
func yardCalls(yard string) map[string][]any {
	return map[string][]any{
		"BrokenOf":     results(impl.BrokenOf(yard)),
		"GapsOf":       results(impl.GapsOf(yard)),
		"SoundParts":   results(impl.SoundParts(yard)),
		"LongestSound": results(impl.LongestSound(yard)),
		"MirrorYard":   results(impl.MirrorYard(yard)),
	}
}

// patchCalls are all functions of a yard and a number of patches.
func patchCalls(yard string, patches int) map[string][]any {
	return map[string][]any{
		"LeastBoards":  results(impl.LeastBoards(yard, patches)),
		"FirstPatches": results(impl.FirstPatches(yard, patches)),
		"WorstBreak":   results(impl.WorstBreak(yard, patches)),
	}
}

func lengthCalls(yard string, long int) map[string][]any {
	return map[string][]any{
		"FewestOfLength": results(impl.FewestOfLength(yard, long)),
		"StartsOfLength": results(impl.StartsOfLength(yard, long)),
	}
}

func coverCalls(yard string, patches [][]int) map[string][]any {
	return map[string][]any{
		"AreCovering": results(impl.AreCovering(yard, patches)),
		"IdlePatches": results(impl.IdlePatches(yard, patches)),
	}
}

func priceCalls(yard string, patch int, board int) map[string][]any {
	return map[string][]any{
		"LeastPrice":      results(impl.LeastPrice(yard, patch, board)),
		"PatchesForPrice": results(impl.PatchesForPrice(yard, patch, board)),
	}
}

// numberCalls are all functions of a yard and numbers.
func numberCalls(yard string, a int, b int) []map[string][]any {
	return []map[string][]any{
		yardCalls(yard), patchCalls(yard, a), lengthCalls(yard, a), priceCalls(yard, a, b), {
			"FewestPatches": results(impl.FewestPatches(yard, a)),
			"BreakBoard":    results(impl.BreakBoard(yard, a)),
			"MendBoards":    results(impl.MendBoards(yard, a, b)),
		},
	}
}

func TestInvalidYards(t *testing.T) {
	for _, yard := range noYards() {
		name := fmt.Sprintf("%.50q", yard)
		for _, number := range []int{0, 1, 2, 10, 30, -1} {
			for _, calls := range numberCalls(yard, number, number) {
				expectAllZero(t, name, calls)
			}
		}
		for _, patches := range [][][]int{nil, {{0, 0}}, {{0, max(0, len(yard)-1)}}, {{0}}} {
			expectAllZero(t, name, coverCalls(yard, patches))
		}
	}
}

func TestInvalidRepairNumbers(t *testing.T) {
	for _, yard := range []string{"x", "o", exampleYard, allBroken, allSound, inTurn} {
		for _, far := range farNumbers() {
			name := fmt.Sprint(yard, far)
			expectAllZero(t, name, patchCalls(yard, far))
			expectAllZero(t, name, lengthCalls(yard, far))
			for _, fine := range []int{0, 1, impl.MaxPrice, far} {
				expectAllZero(t, name, priceCalls(yard, far, fine))
				expectAllZero(t, name, priceCalls(yard, fine, far))
				expectZero(t, "MendBoards "+name, results(impl.MendBoards(yard, far, fine)))
				expectZero(t, "MendBoards "+name, results(impl.MendBoards(yard, fine, far)))
			}
			expectZero(t, "FewestPatches "+name, results(impl.FewestPatches(yard, far)))
			expectZero(t, "BreakBoard "+name, results(impl.BreakBoard(yard, far)))
		}
		for _, patches := range []int{0, impl.MaxPatches + 1} {
			expectAllZero(t, fmt.Sprint(yard, patches), patchCalls(yard, patches))
		}
		for _, long := range []int{0, impl.MaxYard + 1} {
			expectAllZero(t, fmt.Sprint(yard, long), lengthCalls(yard, long))
		}
		expectAllZero(t, yard, priceCalls(yard, impl.MaxPrice+1, 0))
		expectAllZero(t, yard, priceCalls(yard, 0, impl.MaxPrice+1))
		expectZero(t, "FewestPatches "+yard, results(impl.FewestPatches(yard, impl.MaxYard+1)))
		expectZero(t, "BreakBoard "+yard, results(impl.BreakBoard(yard, len(yard))))
		expectZero(t, "MendBoards "+yard, results(impl.MendBoards(yard, math.MinInt, math.MaxInt)))
	}
}

func TestInvalidBroken(t *testing.T) {
	for _, boards := range append(farNumbers(), 0, impl.MaxYard+1) {
		for _, broken := range [][]int{nil, {0}, {0, 1}, {boards - 1}} {
			expectZero(t, fmt.Sprint("YardOf ", boards, broken), results(impl.YardOf(boards, broken)))
		}
	}
	for _, boards := range []int{1, 2, 3, impl.MaxYard} {
		for _, broken := range noBroken(boards) {
			expectZero(t, fmt.Sprint("YardOf ", boards, broken[:min(len(broken), 40)]), results(impl.YardOf(boards, broken)))
		}
	}
}

func TestTooManyPatches(t *testing.T) {
	for _, yard := range []string{"x", "o", exampleYard, allBroken, allSound} {
		whole := []int{0, len(yard) - 1}
		for _, many := range []int{impl.MaxPatches + 1, impl.MaxPatches + 2, 5000} {
			expectAllZero(t, yard, coverCalls(yard, slices.Repeat([][]int{whole}, many)))
			expectAllZero(t, yard, coverCalls(yard, make([][]int, many)))
		}
		expect(t, "AreCovering "+yard, results(impl.AreCovering(yard, slices.Repeat([][]int{whole}, impl.MaxPatches))), true, true)
	}
}

// TestRepairArgumentsStay looks at the elements of lists, and at what is behind them.
func TestRepairArgumentsStay(t *testing.T) {
	r := rand.New(rand.NewSource(54))
	for range 500 {
		yard := randomYard(r)
		room := randomPatches(r, len(yard), 15)
		room[0] = []int{0, len(yard) - 1}
		broken := []int{0, 2, 3, 5, 8, 13, 21, 22, 29, 30, 31, 40}
		var before [][]int
		for i, patch := range room {
			// Behind each patch there is room, too.
			room[i] = append(patch, 77)[:2]
			before = append(before, slices.Clone(room[i][:3]))
		}
		many, long := r.Intn(12), r.Intn(11)
		got := coverCalls(yard, room[:many])
		gotYard := results(impl.YardOf(impl.MaxYard, broken[:long]))
		for i, patch := range room {
			if !slices.Equal(patch[:3], before[i]) {
				t.Fatal("an argument is changed")
			}
		}
		if !slices.Equal(broken, []int{0, 2, 3, 5, 8, 13, 21, 22, 29, 30, 31, 40}) {
			t.Fatal("an argument is changed")
		}
		var bare [][]int
		for _, patch := range room[:many] {
			bare = append(bare, slices.Clip(slices.Clone(patch)))
		}
		for name, call := range got {
			expect(t, name, call, coverCalls(yard, slices.Clip(bare))[name]...)
		}
		expect(t, "YardOf", gotYard, results(impl.YardOf(impl.MaxYard, slices.Clip(slices.Clone(broken[:long]))))...)
	}
}

// TestRepairResultsAreNew spoils the results of a call: neither its arguments nor the next call's results may show it.
func TestRepairResultsAreNew(t *testing.T) {
	patches, broken := [][]int{{0, 4}, {3, 9}, {0, 0}, {9, 9}}, []int{0, 3, 4, 9}
	again := func() []map[string][]any {
		return append(numberCalls(exampleYard, 3, 1), coverCalls(exampleYard, patches), map[string][]any{"YardOf": results(impl.YardOf(10, broken))})
	}
	expectNew(t, append(slices.Clone(patches), broken), again)
}

func TestPatchListsApart(t *testing.T) {
	expectApart(t, map[string]func() ([][]int, bool){
		"FirstPatches":    func() ([][]int, bool) { return impl.FirstPatches(inTurn, impl.MaxPatches) },
		"PatchesForPrice": func() ([][]int, bool) { return impl.PatchesForPrice(inTurn, 0, 1) },
		"SoundParts":      func() ([][]int, bool) { return impl.SoundParts(inTurn) },
	})
}

// TestAnyRepairArguments calls all functions with whatever comes: they return, with zero values where they fail.
func TestAnyRepairArguments(t *testing.T) {
	r := rand.New(rand.NewSource(55))
	numbers := append(farNumbers(), 0, 1, 2, 3, 4, 5, 9, 10, 11, 29, 30, 31, 99, 100, 101)
	texts := append(noYards(), "x", "o", exampleYard, allBroken, allSound, inTurn)
	number := func() int { return numbers[r.Intn(len(numbers))] }
	for range 3000 {
		yard := texts[r.Intn(len(texts))]
		if r.Intn(2) == 0 {
			yard = randomYard(r)
		}
		var patches [][]int
		for range r.Intn(13) {
			patches = append(patches, anyList(r, 2, len(yard)+1, numbers))
		}
		calls := append(numberCalls(yard, number(), number()), coverCalls(yard, patches), map[string][]any{
			"YardOf": results(impl.YardOf(number(), anyList(r, 5, 31, numbers))),
		})
		expectZeroIfFailed(t, calls)
	}
}
