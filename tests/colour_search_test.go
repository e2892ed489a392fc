package tests

import (
	"fmt"
	"math/rand"
	"slices"
	"strings"
	"testing"

	"loop.example/g01373/impl"
)

// TestAllShortFences goes through all proper fences of short sizes, in order.
func TestAllShortFences(t *testing.T) {
	for _, p := range shortPlacings() {
		name := fmt.Sprint(p)
		all := properFences(p)
		expect(t, "CountProper "+name, results(impl.CountProper(p.boards, p.tints, p.around)), len(all), true)
		for rank, fence := range all {
			expect(t, "IsProper "+fence, results(impl.IsProper(fence, p.around)), true, true)
			expect(t, "RankOfProper "+fence+name, results(impl.RankOfProper(fence, p.tints, p.around)), rank, true)
			expect(t, "ProperOfRank "+fence+name, results(impl.ProperOfRank(p.boards, p.tints, p.around, rank)), fence, true)
			if rank+1 < len(all) {
				expect(t, "NextProper "+fence+name, results(impl.NextProper(fence, p.tints, p.around)), all[rank+1], true)
			} else {
				expectZero(t, "NextProper "+fence+name, results(impl.NextProper(fence, p.tints, p.around)))
			}
		}
		expectZero(t, "ProperOfRank "+name, results(impl.ProperOfRank(p.boards, p.tints, p.around, len(all))))
		if len(all) > 0 {
			expect(t, "FirstProper "+name, results(impl.FirstProper(p.boards, p.tints, p.around)), all[0], true)
		} else {
			expectZero(t, "FirstProper "+name, results(impl.FirstProper(p.boards, p.tints, p.around)))
		}
	}
}

// TestImproperFences are those that are not among the proper ones.
func TestImproperFences(t *testing.T) {
	for boards := 1; boards <= 5; boards++ {
		for _, fence := range allFences(boards, ".abc") {
			for _, around := range []bool{false, boards >= 3} {
				proper := plainProper(fence, around)
				expect(t, "IsProper "+fence, results(impl.IsProper(fence, around)), proper, true)
				if !proper {
					expectZero(t, "RankOfProper "+fence, results(impl.RankOfProper(fence, 5, around)))
					expectZero(t, "NextProper "+fence, results(impl.NextProper(fence, 5, around)))
				}
			}
		}
	}
}

func TestShortCountsOnce(t *testing.T) {
	for _, p := range shortPlacings() {
		all := properFences(p)
		name := fmt.Sprint(p)
		if p.around {
			expect(t, "CountTurned "+name, results(impl.CountTurned(p.boards, p.tints)), countKinds(all, turnsOf), true)
			continue
		}
		full := 0
		for _, fence := range all {
			if !slices.ContainsFunc(strings.Split(allTints[:p.tints], ""), func(tint string) bool { return !strings.Contains(fence, tint) }) {
				full++
			}
		}
		expect(t, "CountAllTints "+name, results(impl.CountAllTints(p.boards, p.tints)), full, true)
		expect(t, "CountMirrored "+name, results(impl.CountMirrored(p.boards, p.tints)), countKinds(all, mirrorsOf), true)
	}
}

// countKinds counts fences of which none is like another one.
func countKinds(all []string, likes func(fence string) []string) int {
	kinds, seen := 0, map[string]bool{}
	for _, fence := range all {
		if !seen[fence] {
			kinds++
		}
		for _, like := range likes(fence) {
			seen[like] = true
		}
	}
	return kinds
}

func turnsOf(fence string) []string {
	var turns []string
	for by := range len(fence) {
		turns = append(turns, fence[by:]+fence[:by])
	}
	return turns
}

func mirrorsOf(fence string) []string {
	boards := []byte(fence)
	slices.Reverse(boards)
	return []string{fence, string(boards)}
}

// TestLongCounts compares with counts from board to board, and with what is known of shorter ones.
func TestLongCounts(t *testing.T) {
	for _, p := range allPlacings() {
		name := fmt.Sprint(p)
		_, count := plainCheapest(fillCosts(strings.Repeat(".", p.boards), p.tints), p.around)
		expect(t, "CountProper "+name, results(impl.CountProper(p.boards, p.tints, p.around)), count, true)
		if p.around {
			expect(t, "CountTurned "+name, results(impl.CountTurned(p.boards, p.tints)), plainTurned(p.boards, p.tints), true)
			continue
		}
		half, _ := impl.CountProper((p.boards+1)/2, p.tints, false)
		expect(t, "CountMirrored "+name, results(impl.CountMirrored(p.boards, p.tints)), (count+half*(p.boards%2))/2, true)
		expect(t, "CountAllTints "+name, results(impl.CountAllTints(p.boards, p.tints)), plainAllTints(p.boards, p.tints), true)
	}
}

// plainAllTints counts from board to board how many fences have so many tints.
func plainAllTints(boards int, tints int) int {
	have := make([]int, tints+2)
	have[1] = tints
	for range boards - 1 {
		next := make([]int, tints+2)
		for used := 1; used <= tints; used++ {
			next[used] += have[used] * (used - 1)
			next[used+1] += have[used] * (tints - used)
		}
		have = next
	}
	return have[tints]
}

// TestLongRanks goes from ranks to fences and back, and on to the next ones.
func TestLongRanks(t *testing.T) {
	r := rand.New(rand.NewSource(21))
	for _, p := range allPlacings() {
		count, _ := impl.CountProper(p.boards, p.tints, p.around)
		if count == 0 {
			continue
		}
		before := ""
		ranks := []int{0, r.Intn(count), r.Intn(count), r.Intn(count), count - 1}
		slices.Sort(ranks)
		for k, rank := range ranks {
			fence, ok := impl.ProperOfRank(p.boards, p.tints, p.around, rank)
			if !ok || len(fence) != p.boards || !plainProper(fence, p.around) || strings.Trim(fence, allTints[:p.tints]) != "" {
				t.Fatal("ProperOfRank", p, rank, fence)
			}
			if k > 0 && (fence < before || fence == before && rank != ranks[k-1]) {
				t.Error("ranks are not in order", p, rank, fence)
			}
			before = fence
			expect(t, "RankOfProper "+fence, results(impl.RankOfProper(fence, p.tints, p.around)), rank, true)
			next := plainNext(fence, p)
			expect(t, "NextProper "+fence, results(impl.NextProper(fence, p.tints, p.around)), next, next != "")
		}
	}
}

// plainNext puts a greater tint on the last board that can have one, and the first ones behind it.
func plainNext(fence string, p placing) string {
	for i := p.boards - 1; i >= 0; i-- {
		for _, tint := range allTints[:p.tints] {
			if byte(tint) <= fence[i] {
				continue
			}
			costs := fillCosts(fence[:i]+string(tint)+strings.Repeat(".", p.boards-i-1), p.tints)
			if next := plainFirst(costs, p.around); next != "" {
				return next
			}
		}
	}
	return ""
}

// fillsOf are all proper fences that fill a fence, from all proper ones.
func fillsOf(fence string, all []string) []string {
	var found []string
	for _, proper := range all {
		fits := true
		for i := range fence {
			fits = fits && (fence[i] == '.' || fence[i] == proper[i])
		}
		if fits {
			found = append(found, proper)
		}
	}
	return found
}

// repaintsOf returns the fewest boards painted anew, and the first fence, from all proper ones.
func repaintsOf(fence string, all []string) (int, string) {
	fewest, first := 100, ""
	for _, proper := range all {
		anew := 0
		for i := range fence {
			if fence[i] != proper[i] {
				anew++
			}
		}
		if anew < fewest {
			fewest, first = anew, proper
		}
	}
	return fewest, first
}

func TestShortFills(t *testing.T) {
	r := rand.New(rand.NewSource(22))
	for _, p := range shortPlacings() {
		all := properFences(p)
		for k := range 60 {
			fence := randomFence(r, p.boards, []string{".abcde", ".....abcde", ".aabbc", allTints[:p.tints]}[k%4])
			name := fmt.Sprint(fence, p)
			fills := append(fillsOf(fence, all), "")
			expect(t, "CountFills "+name, results(impl.CountFills(fence, p.tints, p.around)), len(fills)-1, true)
			expect(t, "FillProper "+name, results(impl.FillProper(fence, p.tints, p.around)), fills[0], len(fills) > 1)
			fewest, first := repaintsOf(fence, all)
			if len(all) == 0 {
				fewest = 0
			}
			expect(t, "FewestRepaints "+name, results(impl.FewestRepaints(fence, p.tints, p.around)), fewest, len(all) > 0)
			expect(t, "FirstRepainted "+name, results(impl.FirstRepainted(fence, p.tints, p.around)), first, len(all) > 0)
		}
	}
}

func TestLongFills(t *testing.T) {
	r := rand.New(rand.NewSource(23))
	for k := range 400 {
		p := placing{7 + r.Intn(14), 1 + r.Intn(5), k%2 == 0}
		fence := randomFence(r, p.boards, []string{"....abcde", "........abc", "...........................abcde", ".aab"}[k%4])
		name := fmt.Sprint(fence, p)
		costs := fillCosts(fence, p.tints)
		_, count := plainCheapest(costs, p.around)
		expect(t, "CountFills "+name, results(impl.CountFills(fence, p.tints, p.around)), count, true)
		expect(t, "FillProper "+name, results(impl.FillProper(fence, p.tints, p.around)), plainFirst(costs, p.around), count > 0)
		costs = repaintCosts(fence, p.tints)
		fewest, _ := plainCheapest(costs, p.around)
		first := plainFirst(costs, p.around)
		if first == "" {
			fewest = 0
		}
		expect(t, "FewestRepaints "+name, results(impl.FewestRepaints(fence, p.tints, p.around)), fewest, first != "")
		expect(t, "FirstRepainted "+name, results(impl.FirstRepainted(fence, p.tints, p.around)), first, first != "")
	}
}

func TestRandomLists(t *testing.T) {
	r := rand.New(rand.NewSource(24))
	for range 400 {
		lists := randomLists(r, 1+r.Intn(20))
		costs := listCosts(lists)
		_, count := plainCheapest(costs, false)
		expect(t, fmt.Sprint("CountListed ", lists), results(impl.CountListed(lists)), count, true)
		expect(t, fmt.Sprint("FirstListed ", lists), results(impl.FirstListed(lists)), plainFirst(costs, false), count > 0)
	}
}

func TestRandomCosts(t *testing.T) {
	r := rand.New(rand.NewSource(25))
	for range 400 {
		costs := randomCosts(r, 1+r.Intn(20), 1+r.Intn(5), []int{1, 3, 100}[r.Intn(3)])
		wide := wideCosts(costs)
		least, count := plainCheapest(wide, false)
		if count == 0 {
			least = 0
		}
		expect(t, fmt.Sprint("LeastCost ", costs), results(impl.LeastCost(costs)), least, count > 0)
		expect(t, fmt.Sprint("FirstCheapest ", costs), results(impl.FirstCheapest(costs)), plainFirst(wide, false), count > 0)
	}
}

// TestRandomParts looks at all parts of a fence, and all turns of it.
func TestRandomParts(t *testing.T) {
	r := rand.New(rand.NewSource(26))
	for range 600 {
		fence := randomFence(r, 1+r.Intn(20), []string{".abcde", "ab", ".a", "abcde"}[r.Intn(4)])
		first, long := 0, 0
		for from := range len(fence) {
			for to := from + 1; to <= len(fence); to++ {
				if plainProper(fence[from:to], false) && to-from > long {
					first, long = from, to-from
				}
			}
		}
		expect(t, "LongestProper "+fence, results(impl.LongestProper(fence)), first, long, long > 0)
		if len(fence) < 3 {
			continue
		}
		turns := turnsOf(fence)
		for by, turned := range turns {
			expect(t, "TurnFence "+fence, results(impl.TurnFence(fence, by)), turned, true)
		}
		least := slices.Min(turns)
		expect(t, "LeastTurn "+fence, results(impl.LeastTurn(fence)), least, slices.Index(turns, least), true)
	}
}
