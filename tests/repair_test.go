package tests

import (
	"fmt"
	"strings"
	"testing"

	"loop.example/g01373/impl"
)

// Promise 5: patches cover all broken boards, and fewer boards are not enough for so many.

const exampleYard = "xooxxoooox"

var (
	allBroken = strings.Repeat("x", impl.MaxYard)
	allSound  = strings.Repeat("o", impl.MaxYard)
	inTurn    = strings.Repeat("xo", impl.MaxYard/2)
)

func TestRepairConstants(t *testing.T) {
	if impl.MaxYard != 30 || impl.MaxPatches != 10 || impl.MaxPrice != 100 {
		t.Error("limits", impl.MaxYard, impl.MaxPatches, impl.MaxPrice)
	}
}

func TestRepairExample(t *testing.T) {
	expect(t, "GapsOf", results(impl.GapsOf(exampleYard)), []int{2, 4}, true)
	for patches, boards := range []int{10, 6, 4, 4} {
		expect(t, "LeastBoards", results(impl.LeastBoards(exampleYard, patches+1)), boards, true)
	}
	expect(t, "FirstPatches", results(impl.FirstPatches(exampleYard, 2)), [][]int{{0, 4}, {9, 9}}, true)
	expect(t, "FewestPatches", results(impl.FewestPatches(exampleYard, 5)), 3, true)
	expect(t, "FewestOfLength", results(impl.FewestOfLength(exampleYard, 3)), 3, true)
	expect(t, "StartsOfLength", results(impl.StartsOfLength(exampleYard, 3)), []int{0, 3, 9}, true)
	expect(t, "LeastPrice", results(impl.LeastPrice(exampleYard, 3, 1)), 12, true)
	expect(t, "PatchesForPrice", results(impl.PatchesForPrice(exampleYard, 3, 1)), [][]int{{0, 4}, {9, 9}}, true)
	expect(t, "LongestSound", results(impl.LongestSound(exampleYard)), 5, 4, true)
	expect(t, "WorstBreak", results(impl.WorstBreak(exampleYard, 2)), 6, 8, true)
}

func TestYards(t *testing.T) {
	for _, c := range []struct {
		yard        string
		broken      []int
		gaps        []int
		parts       [][]int
		first, long int
	}{
		{"x", []int{0}, nil, nil, 0, 0}, {"o", nil, nil, [][]int{{0, 0}}, 0, 1}, {"xx", []int{0, 1}, nil, nil, 0, 0}, {"oo", nil, nil, [][]int{{0, 1}}, 0, 2},
		{"xo", []int{0}, nil, [][]int{{1, 1}}, 1, 1}, {"ox", []int{1}, nil, [][]int{{0, 0}}, 0, 1}, {"oxo", []int{1}, nil, [][]int{{0, 0}, {2, 2}}, 0, 1},
		{"xox", []int{0, 2}, []int{1}, [][]int{{1, 1}}, 1, 1}, {"ooxox", []int{2, 4}, []int{1}, [][]int{{0, 1}, {3, 3}}, 0, 2}, {"xoxoo", []int{0, 2}, []int{1}, [][]int{{1, 1}, {3, 4}}, 3, 2},
		{"xoxoox", []int{0, 2, 5}, []int{1, 2}, [][]int{{1, 1}, {3, 4}}, 3, 2}, {"xooxxoox", []int{0, 3, 4, 7}, []int{2, 2}, [][]int{{1, 2}, {5, 6}}, 1, 2},
		{exampleYard, []int{0, 3, 4, 9}, []int{2, 4}, [][]int{{1, 2}, {5, 8}}, 5, 4}, {"oooxoxoooxoo", []int{3, 5, 9}, []int{1, 3}, [][]int{{0, 2}, {4, 4}, {6, 8}, {10, 11}}, 0, 3},
		{allSound, nil, nil, [][]int{{0, 29}}, 0, 30}, {allSound[1:] + "x", []int{29}, nil, [][]int{{0, 28}}, 0, 29}, {"x" + allSound[1:], []int{0}, nil, [][]int{{1, 29}}, 1, 29},
		{"x" + allSound[2:] + "x", []int{0, 29}, []int{28}, [][]int{{1, 28}}, 1, 28},
	} {
		expect(t, "IsYard "+c.yard, results(impl.IsYard(c.yard)), true)
		expect(t, "BrokenOf "+c.yard, results(impl.BrokenOf(c.yard)), c.broken, true)
		expect(t, "YardOf "+c.yard, results(impl.YardOf(len(c.yard), c.broken)), c.yard, true)
		expect(t, "GapsOf "+c.yard, results(impl.GapsOf(c.yard)), c.gaps, true)
		expect(t, "SoundParts "+c.yard, results(impl.SoundParts(c.yard)), c.parts, true)
		expect(t, "LongestSound "+c.yard, results(impl.LongestSound(c.yard)), c.first, c.long, c.long > 0)
	}
	for _, yard := range noYards() {
		expect(t, "IsYard "+yard, results(impl.IsYard(yard)), false)
	}
	expect(t, "IsYard", results(impl.IsYard(allBroken)), true)
	expect(t, "GapsOf", results(impl.GapsOf(allBroken)), []int(nil), true)
	expectZero(t, "LongestSound", results(impl.LongestSound(allBroken)))
	expect(t, "GapsOf", results(impl.GapsOf(inTurn)), times(14, 1), true)
}

func TestPatches(t *testing.T) {
	for _, c := range []struct {
		yard    string
		patches int
		boards  int
		first   [][]int
	}{
		// No board is broken, one is, or all are.
		{"o", 1, 0, nil}, {"o", 10, 0, nil}, {"ooo", 2, 0, nil}, {allSound, 1, 0, nil}, {allSound, 10, 0, nil},
		{"x", 1, 1, [][]int{{0, 0}}}, {"x", 10, 1, [][]int{{0, 0}}}, {"ooxoo", 1, 1, [][]int{{2, 2}}}, {"ooxoo", 10, 1, [][]int{{2, 2}}}, {"xoo", 2, 1, [][]int{{0, 0}}}, {"oox", 2, 1, [][]int{{2, 2}}},
		{"xxx", 1, 3, [][]int{{0, 2}}}, {"xxx", 10, 3, [][]int{{0, 2}}}, {allBroken, 1, 30, [][]int{{0, 29}}}, {allBroken, 10, 30, [][]int{{0, 29}}},
		// There are more patches than gaps and one, or than broken boards.
		{"xox", 1, 3, [][]int{{0, 2}}}, {"xox", 2, 2, [][]int{{0, 0}, {2, 2}}}, {"xox", 3, 2, [][]int{{0, 0}, {2, 2}}}, {"xox", 10, 2, [][]int{{0, 0}, {2, 2}}}, {exampleYard, 10, 4, [][]int{{0, 0}, {3, 4}, {9, 9}}},
		{"oxxoxo", 2, 3, [][]int{{1, 2}, {4, 4}}}, {"oxxoxo", 1, 4, [][]int{{1, 4}}},
		// Gaps are equally great.
		{"xoxox", 2, 4, [][]int{{0, 0}, {2, 4}}}, {"xoxox", 3, 3, [][]int{{0, 0}, {2, 2}, {4, 4}}}, {"xoxooxoox", 2, 7, [][]int{{0, 2}, {5, 8}}}, {"xoxooxoox", 3, 5, [][]int{{0, 2}, {5, 5}, {8, 8}}},
		{"xooxoxoox", 2, 7, [][]int{{0, 0}, {3, 8}}}, {"xooxoxoox", 3, 5, [][]int{{0, 0}, {3, 5}, {8, 8}}}, {"xooxoxoox", 4, 4, [][]int{{0, 0}, {3, 3}, {5, 5}, {8, 8}}}, {"xoxooxooox", 2, 7, [][]int{{0, 5}, {9, 9}}},
		// What is sound at the ends is no gap, however great.
		{"ooooxoxoxoooo", 2, 4, [][]int{{4, 4}, {6, 8}}}, {"ooooxoooo", 2, 1, [][]int{{4, 4}}},
		{inTurn, 1, 29, [][]int{{0, 28}}}, {inTurn, 2, 28, [][]int{{0, 0}, {2, 28}}}, {inTurn, 10, 20, [][]int{{0, 0}, {2, 2}, {4, 4}, {6, 6}, {8, 8}, {10, 10}, {12, 12}, {14, 14}, {16, 16}, {18, 28}}},
		{"x" + allSound[2:] + "x", 1, 30, [][]int{{0, 29}}}, {"x" + allSound[2:] + "x", 2, 2, [][]int{{0, 0}, {29, 29}}},
	} {
		name := fmt.Sprint(" ", c.yard, c.patches)
		expect(t, "LeastBoards"+name, results(impl.LeastBoards(c.yard, c.patches)), c.boards, true)
		expect(t, "FirstPatches"+name, results(impl.FirstPatches(c.yard, c.patches)), c.first, true)
	}
}

func TestFewestPatches(t *testing.T) {
	for _, c := range []struct {
		yard            string
		boards, patches int
	}{
		{"o", 0, 0}, {"o", 30, 0}, {allSound, 0, 0}, {allSound, 30, 0}, {"x", 1, 1}, {"x", 30, 1}, {"oox", 1, 1}, {"xox", 2, 2}, {"xox", 3, 1}, {"xox", 30, 1},
		{exampleYard, 4, 3}, {exampleYard, 6, 2}, {exampleYard, 9, 2}, {exampleYard, 10, 1}, {exampleYard, 30, 1}, {allBroken, 30, 1}, {"xoxooxoox", 4, 4}, {"xoxooxoox", 5, 3}, {"xoxooxoox", 6, 3}, {"xoxooxoox", 7, 2},
		// The patches may be more than MaxPatches here.
		{inTurn, 15, 15}, {inTurn, 16, 14}, {inTurn, 20, 10}, {inTurn, 19, 11}, {inTurn, 28, 2}, {inTurn, 29, 1}, {inTurn, 30, 1},
	} {
		expect(t, fmt.Sprint("FewestPatches ", c), results(impl.FewestPatches(c.yard, c.boards)), c.patches, true)
	}
	for _, c := range []struct {
		yard   string
		boards int
	}{{"x", 0}, {exampleYard, 0}, {exampleYard, 3}, {"xox", 1}, {allBroken, 0}, {allBroken, 29}, {inTurn, 14}} {
		expectZero(t, fmt.Sprint("FewestPatches ", c), results(impl.FewestPatches(c.yard, c.boards)))
	}
}

func TestPatchesOfLength(t *testing.T) {
	for _, c := range []struct {
		yard   string
		long   int
		starts []int
	}{
		{"o", 1, nil}, {"o", 30, nil}, {allSound, 1, nil}, {allSound, 30, nil}, {"x", 1, []int{0}}, {"x", 30, []int{0}}, {exampleYard, 1, []int{0, 3, 4, 9}}, {exampleYard, 4, []int{0, 4, 9}},
		// These go beyond the right end, or end just there.
		{exampleYard, 5, []int{0, 9}}, {exampleYard, 9, []int{0, 9}}, {exampleYard, 10, []int{0}}, {exampleYard, 30, []int{0}}, {"oox", 1, []int{2}}, {"oox", 2, []int{2}}, {"oox", 3, []int{2}}, {"oox", 30, []int{2}},
		{"oxxo", 2, []int{1}}, {"oxxo", 1, []int{1, 2}}, {"xxxxx", 2, []int{0, 2, 4}}, {"xxxxx", 3, []int{0, 3}}, {"xoxxox", 3, []int{0, 3}}, {"oxoox", 3, []int{1, 4}}, {"oxoox", 4, []int{1}},
		{allBroken, 30, []int{0}}, {allBroken, 29, []int{0, 29}}, {allBroken, 15, []int{0, 15}}, {allBroken, 14, []int{0, 14, 28}}, {inTurn, 29, []int{0}}, {inTurn, 28, []int{0, 28}}, {inTurn, 10, []int{0, 10, 20}}, {inTurn, 9, []int{0, 10, 20}},
	} {
		name := fmt.Sprint(" ", c)
		expect(t, "FewestOfLength"+name, results(impl.FewestOfLength(c.yard, c.long)), len(c.starts), true)
		expect(t, "StartsOfLength"+name, results(impl.StartsOfLength(c.yard, c.long)), c.starts, true)
	}
	// More patches than MaxPatches are told, too.
	expect(t, "FewestOfLength", results(impl.FewestOfLength(allBroken, 1)), 30, true)
	starts, _ := impl.StartsOfLength(allBroken, 1)
	broken, _ := impl.BrokenOf(allBroken)
	expect(t, "StartsOfLength", results(starts), broken)
}

func TestCovering(t *testing.T) {
	for _, c := range []struct {
		yard    string
		patches [][]int
		idle    []int
	}{
		// An empty list covers what is not broken; each other one is idle there.
		{"o", nil, nil}, {allSound, [][]int{}, nil}, {"o", [][]int{{0, 0}}, []int{0}}, {"ooo", [][]int{{0, 0}, {2, 2}, {0, 2}}, []int{0, 1, 2}},
		{"x", [][]int{{0, 0}}, nil}, {"x", [][]int{{0, 0}, {0, 0}}, []int{0, 1}}, {allBroken, [][]int{{0, 29}}, nil}, {allBroken, [][]int{{0, 15}, {15, 29}}, nil}, {allBroken, [][]int{{0, 29}, {0, 29}, {3, 4}}, []int{0, 1, 2}},
		{exampleYard, [][]int{{0, 4}, {9, 9}}, nil}, {exampleYard, [][]int{{9, 9}, {0, 4}}, nil}, {exampleYard, [][]int{{0, 9}}, nil}, {exampleYard, [][]int{{5, 8}, {0, 9}}, []int{0}},
		// Several are idle one alone, but not together.
		{exampleYard, [][]int{{0, 4}, {3, 9}, {0, 0}}, []int{0, 2}}, {exampleYard, [][]int{{0, 3}, {3, 4}, {4, 9}}, []int{1}}, {"xxx", [][]int{{0, 1}, {1, 2}, {0, 2}}, []int{0, 1, 2}}, {"xxx", [][]int{{0, 1}, {1, 1}, {1, 2}}, []int{1}},
		{"xoox", [][]int{{0, 2}, {0, 0}, {3, 3}, {2, 3}}, []int{0, 1, 2, 3}}, {"xoox", [][]int{{1, 2}, {3, 3}, {0, 0}}, []int{0}},
		{"xox", [][]int{{0, 0}, {2, 2}, {0, 0}, {2, 2}, {0, 0}, {2, 2}, {0, 0}, {2, 2}, {1, 1}, {1, 1}}, []int{0, 1, 2, 3, 4, 5, 6, 7, 8, 9}},
		{"xoxoxoxoxoxoxoxoxox", [][]int{{0, 0}, {2, 2}, {4, 4}, {6, 6}, {8, 8}, {10, 10}, {12, 12}, {14, 14}, {16, 16}, {18, 18}}, nil},
	} {
		name := fmt.Sprint(" ", c)
		expect(t, "AreCovering"+name, results(impl.AreCovering(c.yard, c.patches)), true, true)
		expect(t, "IdlePatches"+name, results(impl.IdlePatches(c.yard, c.patches)), c.idle, true)
	}
}

func TestNotCovering(t *testing.T) {
	for _, c := range []struct {
		yard    string
		patches [][]int
	}{
		{"x", nil}, {"x", [][]int{}}, {exampleYard, nil}, {allBroken, nil}, {exampleYard, [][]int{{0, 4}}}, {exampleYard, [][]int{{9, 9}}}, {exampleYard, [][]int{{1, 9}}}, {exampleYard, [][]int{{0, 8}}},
		{exampleYard, [][]int{{0, 3}, {5, 9}}}, {exampleYard, [][]int{{1, 2}, {5, 8}}}, {allBroken, [][]int{{0, 14}, {16, 29}}}, {allBroken, [][]int{{0, 28}}}, {allBroken, [][]int{{1, 29}}},
	} {
		name := fmt.Sprint(" ", c)
		expect(t, "AreCovering"+name, results(impl.AreCovering(c.yard, c.patches)), false, true)
		expectZero(t, "IdlePatches"+name, results(impl.IdlePatches(c.yard, c.patches)))
	}
	for _, patch := range noPatches(10) {
		// Whatever else is in the list, it is none of patches.
		for _, patches := range [][][]int{{patch}, {patch, {0, 9}}, {{0, 9}, patch}, {{0, 4}, patch, {9, 9}}} {
			for _, yard := range []string{exampleYard, "oooooooooo"} {
				name := fmt.Sprint(" ", yard, patches)
				expect(t, "AreCovering"+name, results(impl.AreCovering(yard, patches)), false, true)
				expectZero(t, "IdlePatches"+name, results(impl.IdlePatches(yard, patches)))
			}
		}
	}
}

func TestPrices(t *testing.T) {
	for _, c := range []struct {
		yard         string
		patch, board int
		price        int
		patches      [][]int
	}{
		{"o", 0, 0, 0, nil}, {"o", 100, 100, 0, nil}, {allSound, 100, 100, 0, nil}, {"x", 0, 0, 0, [][]int{{0, 0}}}, {"x", 100, 100, 200, [][]int{{0, 0}}}, {"oxo", 7, 3, 10, [][]int{{1, 1}}},
		{allBroken, 100, 100, 3100, [][]int{{0, 29}}}, {allBroken, 0, 100, 3000, [][]int{{0, 29}}}, {allBroken, 100, 0, 100, [][]int{{0, 29}}}, {allBroken, 0, 0, 0, [][]int{{0, 29}}},
		// No gap costs more than a patch if boards cost nothing, and each one does if patches do.
		{exampleYard, 0, 0, 0, [][]int{{0, 9}}}, {exampleYard, 100, 0, 100, [][]int{{0, 9}}}, {exampleYard, 0, 1, 4, [][]int{{0, 0}, {3, 4}, {9, 9}}}, {exampleYard, 0, 100, 400, [][]int{{0, 0}, {3, 4}, {9, 9}}},
		// A gap that costs just as much as a patch is covered.
		{exampleYard, 1, 1, 7, [][]int{{0, 0}, {3, 4}, {9, 9}}}, {exampleYard, 2, 1, 10, [][]int{{0, 4}, {9, 9}}}, {exampleYard, 4, 1, 14, [][]int{{0, 9}}}, {exampleYard, 5, 1, 15, [][]int{{0, 9}}},
		{"xox", 100, 100, 400, [][]int{{0, 2}}}, {"xox", 99, 100, 398, [][]int{{0, 0}, {2, 2}}}, {"xox", 100, 99, 397, [][]int{{0, 2}}}, {"xoox", 100, 50, 300, [][]int{{0, 3}}}, {"xoox", 100, 51, 302, [][]int{{0, 0}, {3, 3}}}, {"xoox", 99, 50, 298, [][]int{{0, 0}, {3, 3}}},
		{"x" + allSound[2:] + "x", 100, 100, 400, [][]int{{0, 0}, {29, 29}}}, {"x" + allSound[2:] + "x", 28, 1, 58, [][]int{{0, 29}}}, {"x" + allSound[2:] + "x", 27, 1, 56, [][]int{{0, 0}, {29, 29}}},
	} {
		name := fmt.Sprint(" ", c)
		expect(t, "LeastPrice"+name, results(impl.LeastPrice(c.yard, c.patch, c.board)), c.price, true)
		expect(t, "PatchesForPrice"+name, results(impl.PatchesForPrice(c.yard, c.patch, c.board)), c.patches, true)
	}
	// The patches may be more than MaxPatches here.
	expect(t, "LeastPrice", results(impl.LeastPrice(inTurn, 1, 2)), 45, true)
	patches, ok := impl.PatchesForPrice(inTurn, 1, 2)
	if !ok || len(patches) != 15 || plainPrice(patches, 1, 2) != 45 {
		t.Error("PatchesForPrice", patches, ok)
	}
}

func TestChangedYards(t *testing.T) {
	expect(t, "BreakBoard", results(impl.BreakBoard("o", 0)), "x", true)
	expect(t, "BreakBoard", results(impl.BreakBoard("oox", 0)), "xox", true)
	expect(t, "BreakBoard", results(impl.BreakBoard("oox", 1)), "oxx", true)
	expect(t, "BreakBoard", results(impl.BreakBoard(allSound, 29)), allSound[1:]+"x", true)
	for _, c := range []struct {
		yard  string
		board int
	}{{"x", 0}, {"oox", 2}, {"oox", 3}, {"oox", -1}, {allBroken, 0}, {allBroken, 29}, {allSound, 30}} {
		expectZero(t, fmt.Sprint("BreakBoard ", c), results(impl.BreakBoard(c.yard, c.board)))
	}
	for _, c := range []struct {
		yard     string
		from, to int
		mended   string
	}{
		{"x", 0, 0, "o"}, {"o", 0, 0, "o"}, {"xxx", 0, 0, "oxx"}, {"xxx", 2, 2, "xxo"}, {"xxx", 0, 1, "oox"}, {"xxx", 0, 2, "ooo"}, {exampleYard, 3, 8, "xooooooo" + "ox"}, {exampleYard, 1, 2, exampleYard},
		{allBroken, 0, 29, allSound}, {allBroken, 29, 29, allBroken[1:] + "o"}, {allSound, 0, 29, allSound},
	} {
		expect(t, fmt.Sprint("MendBoards ", c), results(impl.MendBoards(c.yard, c.from, c.to)), c.mended, true)
	}
	for _, c := range []struct {
		yard     string
		from, to int
	}{{"x", 0, 1}, {"x", 1, 1}, {"x", -1, 0}, {"xxx", 1, 0}, {"xxx", 2, 1}, {"xxx", 0, 3}, {"xxx", -1, 3}, {allBroken, 0, 30}, {allBroken, 29, 0}} {
		expectZero(t, fmt.Sprint("MendBoards ", c), results(impl.MendBoards(c.yard, c.from, c.to)))
	}
	for _, c := range [][2]string{{"x", "x"}, {"o", "o"}, {"xo", "ox"}, {exampleYard, "xooooxxoox"}, {"xxo", "oxx"}, {allBroken, allBroken}, {inTurn, "o" + inTurn[:29]}} {
		expect(t, "MirrorYard "+c[0], results(impl.MirrorYard(c[0])), c[1], true)
		expect(t, "MirrorYard "+c[1], results(impl.MirrorYard(c[1])), c[0], true)
	}
}

func TestWorstBreak(t *testing.T) {
	for _, c := range []struct {
		yard        string
		patches     int
		worst, most int
	}{
		{"o", 1, 0, 1}, {"o", 10, 0, 1}, {allSound, 1, 0, 1}, {allSound, 10, 0, 1}, {"xo", 1, 1, 2}, {"ox", 1, 0, 2}, {"ox", 10, 0, 2}, {"xooo", 1, 3, 4}, {"xooo", 2, 1, 2}, {"ooox", 1, 0, 4}, {"oooxo", 1, 0, 4},
		{"ooxoo", 1, 0, 3}, {"ooxoo", 2, 0, 2}, {exampleYard, 1, 1, 10}, {exampleYard, 3, 6, 6}, {exampleYard, 4, 1, 5}, {exampleYard, 10, 1, 5}, {"xoooox", 2, 2, 4}, {"xooooox", 2, 3, 5}, {"xooox", 2, 2, 4},
		{"x" + allSound[2:] + "x", 1, 1, 30}, {"x" + allSound[2:] + "x", 2, 14, 16}, {"x" + allSound[2:] + "x", 3, 1, 3}, {allBroken[1:] + "o", 1, 29, 30}, {"o" + allBroken[1:], 10, 0, 30},
	} {
		expect(t, fmt.Sprint("WorstBreak ", c), results(impl.WorstBreak(c.yard, c.patches)), c.worst, c.most, true)
	}
	for _, yard := range []string{"x", "xx", allBroken} {
		for _, patches := range []int{1, 2, 10} {
			expectZero(t, "WorstBreak "+yard, results(impl.WorstBreak(yard, patches)))
		}
	}
}
