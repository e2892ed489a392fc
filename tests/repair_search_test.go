package tests

import (
	"fmt"
	"math/rand"
	"slices"
	"strings"
	"testing"

	"loop.example/g01373/impl"
)

// checkPatches compares with the least numbers of boards for 0, 1, .. patches, as many as boards.
func checkPatches(t *testing.T, yard string, fewest []int) {
	t.Helper()
	for patches := 1; patches <= impl.MaxPatches; patches++ {
		name := fmt.Sprint(" ", yard, patches)
		first := plainFirstPatches(yard, patches)
		expect(t, "LeastBoards"+name, results(impl.LeastBoards(yard, patches)), fewest[min(patches, len(yard))], true)
		expect(t, "FirstPatches"+name, results(impl.FirstPatches(yard, patches)), first, true)
		// What is told as patches is as short as told, and covers.
		if len(first) > patches || plainPrice(first, 0, 1) != fewest[min(patches, len(yard))] || !plainCovering(yard, first) {
			t.Error("FirstPatches"+name, first)
		}
		expect(t, "AreCovering"+name, results(impl.AreCovering(yard, first)), true, true)
		expect(t, "IdlePatches"+name, results(impl.IdlePatches(yard, first)), []int(nil), true)
	}
	for boards := range impl.MaxYard + 1 {
		name := fmt.Sprint("FewestPatches ", yard, boards)
		patches := slices.IndexFunc(fewest, func(least int) bool { return least <= boards })
		if patches < 0 {
			expectZero(t, name, results(impl.FewestPatches(yard, boards)))
		} else {
			expect(t, name, results(impl.FewestPatches(yard, boards)), patches, true)
		}
	}
}

func checkPrice(t *testing.T, yard string, patch int, board int, fewest []int) {
	t.Helper()
	name := fmt.Sprint(" ", yard, patch, board)
	// No patch at all is enough only if no board is broken.
	least := 0
	if strings.Contains(yard, "x") {
		least = patch + fewest[1]*board
	}
	for patches := 1; patches <= len(yard); patches++ {
		least = min(least, patches*patch+fewest[patches]*board)
	}
	expect(t, "LeastPrice"+name, results(impl.LeastPrice(yard, patch, board)), least, true)
	found := plainPatchesForPrice(yard, patch, board)
	expect(t, "PatchesForPrice"+name, results(impl.PatchesForPrice(yard, patch, board)), found, true)
	if plainPrice(found, patch, board) != least || !plainCovering(yard, found) {
		t.Error("PatchesForPrice"+name, found)
	}
}

func checkLengths(t *testing.T, yard string) {
	t.Helper()
	for long := 1; long <= impl.MaxYard; long++ {
		name := fmt.Sprint(" ", yard, long)
		expect(t, "FewestOfLength"+name, results(impl.FewestOfLength(yard, long)), plainFewestOfLength(yard, long), true)
		expect(t, "StartsOfLength"+name, results(impl.StartsOfLength(yard, long)), plainStarts(yard, long), true)
	}
}

// checkBoards looks at what the text of a yard itself tells.
func checkBoards(t *testing.T, yard string) {
	t.Helper()
	var broken, gaps []int
	var mirrored []byte
	for board := range len(yard) {
		if yard[board] == 'x' {
			broken = append(broken, board)
		}
		mirrored = append(mirrored, yard[len(yard)-1-board])
	}
	for _, gap := range strings.FieldsFunc(strings.Trim(yard, "o"), func(board rune) bool { return board == 'x' }) {
		gaps = append(gaps, len(gap))
	}
	parts := partsOfSet(^plainYard(yard) & (1<<len(yard) - 1))
	expect(t, "IsYard "+yard, results(impl.IsYard(yard)), true)
	expect(t, "BrokenOf "+yard, results(impl.BrokenOf(yard)), broken, true)
	expect(t, "YardOf "+yard, results(impl.YardOf(len(yard), broken)), yard, true)
	expect(t, "GapsOf "+yard, results(impl.GapsOf(yard)), gaps, true)
	expect(t, "SoundParts "+yard, results(impl.SoundParts(yard)), parts, true)
	expect(t, "MirrorYard "+yard, results(impl.MirrorYard(yard)), string(mirrored), true)
	first, long := 0, 0
	for _, part := range parts {
		if part[1]-part[0]+1 > long {
			first, long = part[0], part[1]-part[0]+1
		}
	}
	expect(t, "LongestSound "+yard, results(impl.LongestSound(yard)), first, long, long > 0)
}

// checkChanges breaks each board, mends each part, and goes beyond both ends.
func checkChanges(t *testing.T, yard string) {
	t.Helper()
	for board := -1; board <= len(yard); board++ {
		name := fmt.Sprint("BreakBoard ", yard, board)
		if board < 0 || board == len(yard) || yard[board] == 'x' {
			expectZero(t, name, results(impl.BreakBoard(yard, board)))
		} else {
			expect(t, name, results(impl.BreakBoard(yard, board)), yard[:board]+"x"+yard[board+1:], true)
		}
	}
	for from := -1; from <= len(yard); from++ {
		for to := -1; to <= len(yard); to++ {
			name := fmt.Sprint("MendBoards ", yard, from, to)
			if from < 0 || to < from || to == len(yard) {
				expectZero(t, name, results(impl.MendBoards(yard, from, to)))
				continue
			}
			boards := []byte(yard)
			for board := from; board <= to; board++ {
				boards[board] = 'o'
			}
			expect(t, name, results(impl.MendBoards(yard, from, to)), string(boards), true)
		}
	}
}

func checkWorst(t *testing.T, yard string, patches int, fewestOf func(yard string) []int) {
	t.Helper()
	worst, most := plainWorst(yard, patches, fewestOf)
	expect(t, fmt.Sprint("WorstBreak ", yard, patches), results(impl.WorstBreak(yard, patches)), worst, most, most > 0)
}

// TestAllShortYards compares with all sets of boards that cover all short yards.
func TestAllShortYards(t *testing.T) {
	for _, yard := range allYards(8) {
		fewest := fewestBySets(yard)
		checkPatches(t, yard, fewest)
		checkLengths(t, yard)
		checkBoards(t, yard)
		checkChanges(t, yard)
		for patch := range 7 {
			for board := range 4 {
				checkPrice(t, yard, patch, board, fewest)
			}
		}
	}
	for _, yard := range allYards(6) {
		for patches := 1; patches <= impl.MaxPatches; patches++ {
			checkWorst(t, yard, patches, fewestBySets)
		}
	}
}

func TestRandomYards(t *testing.T) {
	r := rand.New(rand.NewSource(51))
	for range 400 {
		yard := randomYard(r)
		fewest := fewestBySteps(yard)
		checkPatches(t, yard, fewest)
		checkLengths(t, yard)
		checkBoards(t, yard)
		checkChanges(t, yard)
		checkWorst(t, yard, 1+r.Intn(impl.MaxPatches), fewestBySteps)
		for range 20 {
			checkPrice(t, yard, r.Intn([]int{4, 30, 101}[r.Intn(3)]), r.Intn([]int{3, 10, 101}[r.Intn(3)]), fewest)
		}
	}
}

// TestLongYards has as many boards as there may be.
func TestLongYards(t *testing.T) {
	r := rand.New(rand.NewSource(52))
	for _, letters := range []string{"x", "o", "xo", "xooo", "xxxxo"} {
		for range 10 {
			yard := randomFence(r, impl.MaxYard, letters)
			fewest := fewestBySteps(yard)
			checkPatches(t, yard, fewest)
			checkLengths(t, yard)
			checkBoards(t, yard)
			checkPrice(t, yard, r.Intn(101), r.Intn(101), fewest)
			for patches := 1; patches <= impl.MaxPatches; patches++ {
				checkWorst(t, yard, patches, fewestBySteps)
			}
		}
	}
}

// checkCovering compares for patches and for lists that are none.
func checkCovering(t *testing.T, yard string, patches [][]int) {
	t.Helper()
	name := fmt.Sprint(" ", yard, patches)
	covering := plainCovering(yard, patches)
	expect(t, "AreCovering"+name, results(impl.AreCovering(yard, patches)), covering, true)
	if covering {
		expect(t, "IdlePatches"+name, results(impl.IdlePatches(yard, patches)), plainIdle(yard, patches), true)
	} else {
		expectZero(t, "IdlePatches"+name, results(impl.IdlePatches(yard, patches)))
	}
}

// TestAllShortCoverings goes through all lists of up to two pairs of numbers for all short yards: no list of them covers with less than told.
func TestAllShortCoverings(t *testing.T) {
	for _, yard := range allYards(4) {
		var pairs [][]int
		for from := -1; from <= len(yard); from++ {
			for to := -1; to <= len(yard); to++ {
				pairs = append(pairs, []int{from, to})
			}
		}
		checkCovering(t, yard, nil)
		for _, a := range pairs {
			checkCovering(t, yard, [][]int{a})
			for _, b := range pairs {
				checkCovering(t, yard, [][]int{a, b})
				checkCheapest(t, yard, [][]int{a, b})
			}
		}
	}
}

// checkCheapest holds least boards and prices against patches of whatever kind, those over each other too.
func checkCheapest(t *testing.T, yard string, patches [][]int) {
	t.Helper()
	if !plainCovering(yard, patches) {
		return
	}
	boards := 0
	for board := range len(yard) {
		if slices.ContainsFunc(patches, func(p []int) bool { return p[0] <= board && board <= p[1] }) {
			boards++
		}
	}
	if least, ok := impl.LeastBoards(yard, len(patches)); !ok || least > boards {
		t.Error("LeastBoards", yard, patches, least, ok)
	}
	if fewest, ok := impl.FewestPatches(yard, boards); !ok || fewest > len(patches) {
		t.Error("FewestPatches", yard, patches, fewest, ok)
	}
	for _, c := range [][2]int{{0, 0}, {1, 1}, {1, 0}, {0, 1}, {5, 2}, {1, 2}, {100, 100}} {
		if price, ok := impl.LeastPrice(yard, c[0], c[1]); !ok || price > plainPrice(patches, c[0], c[1]) {
			t.Error("LeastPrice", yard, patches, c, price, ok)
		}
	}
}

func TestRandomCoverings(t *testing.T) {
	r := rand.New(rand.NewSource(53))
	for range 3000 {
		yard := randomYard(r)
		checkCovering(t, yard, randomPatches(r, len(yard), r.Intn(impl.MaxPatches+1)))
		// The others cover it anyway, in whatever order they are.
		patches := append(randomPatches(r, len(yard), r.Intn(8)), plainFirstPatches(yard, 1+r.Intn(3))...)
		patches = patches[:min(len(patches), impl.MaxPatches)]
		r.Shuffle(len(patches), func(i int, j int) { patches[i], patches[j] = patches[j], patches[i] })
		checkCovering(t, yard, patches)
	}
}
