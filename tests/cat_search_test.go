package tests

import (
	"fmt"
	"math/rand"
	"slices"
	"testing"

	"loop.example/g01373/impl"
)

// checkFirstLeast compares the cheapest way for a reach.
func checkFirstLeast(t *testing.T, heights []int, reach int, first []int) {
	t.Helper()
	name := fmt.Sprint(" ", heights, reach)
	expect(t, "LeastClimb"+name, results(impl.LeastClimb(heights, reach)), plainClimb(heights, first), true)
	expect(t, "FirstLeastClimb"+name, results(impl.FirstLeastClimb(heights, reach)), first, true)
	expect(t, "ClimbOf"+name, results(impl.ClimbOf(heights, first)), plainClimb(heights, first), true)
	expect(t, "IsCatWay"+name, results(impl.IsCatWay(heights, reach, impl.MaxTall, first)), true, true)
	expect(t, "EasiestClimb"+name, results(impl.EasiestClimb(heights, reach)), plainEasiest(heights, reach), true)
	expect(t, "LongestDown"+name, results(impl.LongestDown(heights, reach)), plainDown(heights, reach), true)
}

// checkWays compares what is told of all ways; first is the first one of the shortest, nil if there is none.
func checkWays(t *testing.T, c catTrack, count int, first []int) {
	t.Helper()
	name := fmt.Sprint(" ", c)
	expect(t, "CountCatWays"+name, results(impl.CountCatWays(c.heights, c.reach, c.climb)), count, true)
	expect(t, "ReachedBoards"+name, results(impl.ReachedBoards(c.heights, c.reach, c.climb)), plainReached(c.heights, c.reach, c.climb, -1), true)
	if first == nil {
		expectZero(t, "FewestJumps"+name, results(impl.FewestJumps(c.heights, c.reach, c.climb)))
		expectZero(t, "FirstFewestJumps"+name, results(impl.FirstFewestJumps(c.heights, c.reach, c.climb)))
		expectZero(t, "NeededBoards"+name, results(impl.NeededBoards(c.heights, c.reach, c.climb)))
		return
	}
	expect(t, "FewestJumps"+name, results(impl.FewestJumps(c.heights, c.reach, c.climb)), len(first)-1, true)
	expect(t, "FirstFewestJumps"+name, results(impl.FirstFewestJumps(c.heights, c.reach, c.climb)), first, true)
	expect(t, "IsCatWay"+name, results(impl.IsCatWay(c.heights, c.reach, c.climb, first)), true, true)
	expect(t, "NeededBoards"+name, results(impl.NeededBoards(c.heights, c.reach, c.climb)), plainNeeded(c.heights, c.reach, c.climb), true)
}

// checkTops looks at what the heights tell without jumps.
func checkTops(t *testing.T, heights []int) {
	t.Helper()
	name := fmt.Sprint(" ", heights)
	expect(t, "AreHeights"+name, results(impl.AreHeights(heights)), true)
	expect(t, "TopsOf"+name, results(impl.TopsOf(heights)), plainBeside(heights, 1), true)
	expect(t, "HollowsOf"+name, results(impl.HollowsOf(heights)), plainBeside(heights, -1), true)
	expect(t, "SeenFromLeft"+name, results(impl.SeenFromLeft(heights)), plainSeenFromLeft(heights), true)
	from, most := 0, 0
	for board := range heights {
		seen := plainSeen(heights, board)
		expect(t, fmt.Sprint("SeenFrom", name, board), results(impl.SeenFrom(heights, board)), seen, true)
		if len(seen) > most {
			from, most = board, len(seen)
		}
	}
	expect(t, "MostSeen"+name, results(impl.MostSeen(heights)), from, most, true)
	told := ""
	for _, height := range heights {
		told += fmt.Sprint("-", height)
	}
	expect(t, "HeightsText"+name, results(impl.HeightsText(heights)), told[1:], true)
	expect(t, "ParseHeights"+name, results(impl.ParseHeights(told[1:])), heights, true)
	mirror := slices.Clone(heights)
	slices.Reverse(mirror)
	expect(t, "MirrorHeights"+name, results(impl.MirrorHeights(heights)), mirror, true)
}

// checkSeers holds the program against itself: who sees is seen.
func checkSeers(t *testing.T, heights []int) {
	t.Helper()
	for a := range heights {
		fromA, _ := impl.SeenFrom(heights, a)
		for b := range heights {
			fromB, _ := impl.SeenFrom(heights, b)
			if slices.Contains(fromA, b) != slices.Contains(fromB, a) {
				t.Error("SeenFrom", heights, a, b, fromA, fromB)
			}
		}
	}
}

// checkRaises raises each board by each number near a limit.
func checkRaises(t *testing.T, heights []int) {
	t.Helper()
	for board, height := range heights {
		for _, by := range []int{-51, -50, -height - 1, -height, -1, 0, 1, 50 - height, 51 - height, 50, 51} {
			name := fmt.Sprint("RaiseBoard ", heights, board, by)
			if by < -50 || by > 50 || height+by < 0 || height+by > 50 {
				expectZero(t, name, results(impl.RaiseBoard(heights, board, by)))
				continue
			}
			raised := slices.Concat(heights[:board], []int{height + by}, heights[board+1:])
			expect(t, name, results(impl.RaiseBoard(heights, board, by)), raised, true)
		}
	}
}

// TestAllShortHeights compares with all ways along all heights of few boards.
func TestAllShortHeights(t *testing.T) {
	for _, heights := range allHeights(5, 3) {
		climbOf := func(way []int) int { return plainClimb(heights, way) }
		for _, reach := range []int{1, 2, 3, 4, impl.MaxReach} {
			checkFirstLeast(t, heights, reach, firstLeast(plainWays(heights, reach, impl.MaxTall), climbOf))
			for climb := range 4 {
				ways := plainWays(heights, reach, climb)
				var first []int
				if len(ways) > 0 {
					first = firstLeast(ways, func(way []int) int { return len(way) })
				}
				checkWays(t, catTrack{heights, reach, climb}, len(ways), first)
			}
		}
		checkTops(t, heights)
		checkSeers(t, heights)
		checkRaises(t, heights)
	}
}

// TestRandomHeights has ways of up to as many boards as there may be, without all of them being told.
func TestRandomHeights(t *testing.T) {
	r := rand.New(rand.NewSource(61))
	for i := range 600 {
		boards := 1 + r.Intn(impl.MaxBoards)
		if i%3 == 0 {
			boards = impl.MaxBoards
		}
		heights := randomHeights(r, boards)
		checkTops(t, heights)
		checkSeers(t, heights)
		checkRaises(t, heights)
		climbOf := func(way []int) int { return plainClimb(heights, way) }
		jumpsOf := func(way []int) int { return len(way) }
		for range 4 {
			reach, climb := 1+r.Intn([]int{4, impl.MaxReach}[r.Intn(2)]), r.Intn(1+[]int{3, 12, impl.MaxTall}[r.Intn(3)])
			checkFirstLeast(t, heights, reach, firstBySuffixes(heights, reach, impl.MaxTall, climbOf))
			checkWays(t, catTrack{heights, reach, climb}, countFrom(heights, reach, climb), firstBySuffixes(heights, reach, climb, jumpsOf))
		}
	}
}

// TestEasiestIsEnough holds the easiest climb against the ways: with it there is one, with one less there is none.
func TestEasiestIsEnough(t *testing.T) {
	r := rand.New(rand.NewSource(62))
	for range 300 {
		heights, reach := randomHeights(r, 1+r.Intn(impl.MaxBoards)), 1+r.Intn(impl.MaxReach)
		climb, ok := impl.EasiestClimb(heights, reach)
		if ways, fine := impl.CountCatWays(heights, reach, climb); !ok || !fine || ways == 0 {
			t.Error("EasiestClimb", heights, reach, climb, ok)
		}
		if climb > 0 {
			expectZero(t, "FewestJumps", results(impl.FewestJumps(heights, reach, climb-1)))
		}
	}
}

// checkAnyWay compares for ways and for lists that are none.
func checkAnyWay(t *testing.T, c catTrack, way []int) {
	t.Helper()
	name := fmt.Sprint(" ", c, way)
	expect(t, "IsCatWay"+name, results(impl.IsCatWay(c.heights, c.reach, c.climb, way)), plainIsWay(c.heights, c.reach, c.climb, way), true)
	if plainIsWay(c.heights, impl.MaxReach, impl.MaxTall, way) {
		expect(t, "ClimbOf"+name, results(impl.ClimbOf(c.heights, way)), plainClimb(c.heights, way), true)
	} else {
		expectZero(t, "ClimbOf"+name, results(impl.ClimbOf(c.heights, way)))
	}
}

// TestAllShortLists goes through all lists of up to four numbers, those beyond both ends too.
func TestAllShortLists(t *testing.T) {
	for _, heights := range [][]int{{3}, {3, 4}, {4, 2, 4}, {1, 3, 0}} {
		for _, list := range append(allNumbers(4, len(heights)+2), nil) {
			way := make([]int, len(list))
			for i, number := range list {
				way[i] = number - 2
			}
			for _, c := range []catTrack{{heights, 1, 1}, {heights, 1, 2}, {heights, 2, 0}, {heights, 2, 2}, {heights, 20, 50}} {
				checkAnyWay(t, c, way)
			}
		}
	}
}

func TestRandomWays(t *testing.T) {
	r := rand.New(rand.NewSource(63))
	for range 3000 {
		heights := randomHeights(r, 1+r.Intn(impl.MaxBoards))
		way := []int{0}
		for way[len(way)-1] < len(heights)-1 {
			way = append(way, min(len(heights)-1, way[len(way)-1]+1+r.Intn(4)))
		}
		c := catTrack{heights, 1 + r.Intn(5), r.Intn(1 + []int{4, impl.MaxTall}[r.Intn(2)])}
		checkAnyWay(t, c, way)
		// One number else may be a way as well, or not.
		way[r.Intn(len(way))] += r.Intn(5) - 2
		checkAnyWay(t, c, way)
	}
}
