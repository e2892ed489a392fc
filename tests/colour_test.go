package tests

import (
	"slices"
	"strings"
	"testing"

	"loop.example/g01373/impl"
)

// Promise 2: proper fences are told by ranks, and what turns or is mirrored is counted once.

func TestColourExample(t *testing.T) {
	expect(t, "CountProper", results(impl.CountProper(3, 3, false)), 12, true)
	expect(t, "CountProper around", results(impl.CountProper(3, 3, true)), 6, true)
	expect(t, "RankOfProper", results(impl.RankOfProper("bab", 3, false)), 4, true)
	expect(t, "NextProper", results(impl.NextProper("bab", 3, false)), "bac", true)
	expect(t, "CountAllTints", results(impl.CountAllTints(3, 3)), 6, true)
	expect(t, "CountMirrored", results(impl.CountMirrored(3, 3)), 9, true)
	expect(t, "CountTurned", results(impl.CountTurned(3, 3)), 2, true)
	lists := []string{"ab", "a", "ac"}
	expect(t, "CountListed", results(impl.CountListed(lists)), 1, true)
	expect(t, "FirstListed", results(impl.FirstListed(lists)), "bac", true)
	expect(t, "FillProper", results(impl.FillProper("a..a", 3, false)), "abca", true)
	expect(t, "CountFills", results(impl.CountFills("a..a", 3, false)), 2, true)
	for _, around := range []bool{false, true} {
		expect(t, "FewestRepaints", results(impl.FewestRepaints("aaba", 2, around)), 1, true)
		expect(t, "FirstRepainted", results(impl.FirstRepainted("aaba", 2, around)), "baba", true)
	}
	expect(t, "LongestProper", results(impl.LongestProper("aaba")), 1, 3, true)
	expect(t, "LeastTurn", results(impl.LeastTurn("cabab")), "ababc", 1, true)
}

func TestIsProper(t *testing.T) {
	for _, c := range []struct {
		fence  string
		around bool
		proper bool
	}{
		{"a", false, true}, {"e", false, true}, {".", false, false}, {"ab", false, true}, {"aa", false, false}, {"a.", false, false},
		{".a", false, false}, {"aba", false, true}, {"aba", true, false}, {"abc", true, true}, {"ab.", true, false}, {".ab", true, false},
		{"a.b", false, false}, {"a.a", true, false}, {"...", true, false}, {"aab", true, false}, {"abb", true, false}, {"abab", true, true},
		{"abcabca", true, false}, {"abcabcd", true, true}, {"edcbaedcbaedcbaedcba", true, true}, {"edcbaedcbaedcbaedcba", false, true},
		{"abababababababababab", true, true}, {"abababababababababa", true, false}, {mostBoards, false, false},
		{"abcdeabcdeabcdeabcdd", false, false}, {"bbcdeabcdeabcdeabcde", false, false}, {"eeeeeeeeeeeeeeeeeeee", false, false},
		{"abcdeabcdeabcdeabcda", true, false}, {"abcdeabcdeabcdeabcda", false, true},
	} {
		expect(t, "IsProper "+c.fence, results(impl.IsProper(c.fence, c.around)), c.proper, true)
	}
}

func TestCountProper(t *testing.T) {
	for _, c := range []struct {
		placing
		count int
	}{
		{placing{1, 1, false}, 1}, {placing{1, 5, false}, 5}, {placing{2, 1, false}, 0}, {placing{2, 2, false}, 2}, {placing{20, 1, false}, 0},
		{placing{20, 2, false}, 2}, {placing{20, 5, false}, 5 << 38}, {placing{3, 1, true}, 0}, {placing{3, 2, true}, 0}, {placing{4, 2, true}, 2},
		{placing{4, 3, true}, 18}, {placing{3, 5, true}, 60}, {placing{20, 5, true}, 1<<40 + 4}, {placing{19, 5, true}, 1<<38 - 4},
		{placing{20, 1, true}, 0}, {placing{19, 2, true}, 0}, {placing{20, 2, true}, 2}, {placing{19, 3, true}, 1<<19 - 2},
	} {
		expect(t, "CountProper", results(impl.CountProper(c.boards, c.tints, c.around)), c.count, true)
	}
}

func TestFirstProper(t *testing.T) {
	for _, c := range []struct {
		placing
		first string
	}{
		{placing{1, 1, false}, "a"}, {placing{1, 5, false}, "a"}, {placing{2, 2, false}, "ab"}, {placing{5, 5, false}, "ababa"},
		{placing{3, 3, true}, "abc"}, {placing{3, 5, true}, "abc"}, {placing{4, 5, true}, "abab"}, {placing{5, 4, true}, "ababc"},
		{placing{20, 2, false}, "abababababababababab"}, {placing{20, 5, true}, "abababababababababab"},
		{placing{19, 3, true}, "ababababababababab" + "c"}, {placing{19, 5, false}, "abababababababababa"},
	} {
		expect(t, "FirstProper", results(impl.FirstProper(c.boards, c.tints, c.around)), c.first, true)
		expect(t, "ProperOfRank", results(impl.ProperOfRank(c.boards, c.tints, c.around, 0)), c.first, true)
		expect(t, "RankOfProper", results(impl.RankOfProper(c.first, c.tints, c.around)), 0, true)
	}
	for _, p := range []placing{{2, 1, false}, {20, 1, false}, {3, 1, true}, {3, 2, true}, {19, 2, true}, {20, 1, true}} {
		expectZero(t, "FirstProper", results(impl.FirstProper(p.boards, p.tints, p.around)))
		expectZero(t, "ProperOfRank", results(impl.ProperOfRank(p.boards, p.tints, p.around, 0)))
	}
}

func TestLastProper(t *testing.T) {
	for _, c := range []struct {
		placing
		last string
	}{
		{placing{1, 1, false}, "a"}, {placing{1, 5, false}, "e"}, {placing{2, 2, false}, "ba"}, {placing{3, 3, true}, "cba"},
		{placing{5, 5, true}, "ededc"}, {placing{20, 5, false}, "edededededededededed"}, {placing{20, 5, true}, "edededededededededed"},
		{placing{19, 5, true}, "ededededededededed" + "c"}, {placing{20, 2, true}, "babababababababababa"},
	} {
		count, _ := impl.CountProper(c.boards, c.tints, c.around)
		expect(t, "ProperOfRank", results(impl.ProperOfRank(c.boards, c.tints, c.around, count-1)), c.last, true)
		expect(t, "RankOfProper", results(impl.RankOfProper(c.last, c.tints, c.around)), count-1, true)
		expectZero(t, "ProperOfRank", results(impl.ProperOfRank(c.boards, c.tints, c.around, count)))
		expectZero(t, "NextProper", results(impl.NextProper(c.last, c.tints, c.around)))
	}
}

func TestNextProper(t *testing.T) {
	for _, c := range []struct {
		fence  string
		tints  int
		around bool
		next   string
	}{
		{"a", 2, false, "b"}, {"d", 5, false, "e"}, {"ab", 2, false, "ba"}, {"ab", 3, false, "ac"}, {"aba", 5, false, "abc"},
		{"abc", 3, true, "acb"}, {"acb", 3, true, "bac"}, {"abd", 5, true, "abe"}, {"abe", 5, true, "acb"},
		{"abababababababababab", 2, true, "babababababababababa"}, {"aededededededededede", 5, false, "babababababababababa"},
		{"abababababababababab", 5, false, "abababababababababac"}, {"abababababababababa", 2, false, "bababababababababab"},
	} {
		expect(t, "NextProper "+c.fence, results(impl.NextProper(c.fence, c.tints, c.around)), c.next, true)
	}
	expectZero(t, "NextProper", results(impl.NextProper("a", 1, false)))
}

// TestOtherColours are proper fences, but not with so many tints.
func TestOtherColours(t *testing.T) {
	for _, c := range []struct {
		fence string
		tints int
	}{{"b", 1}, {"e", 4}, {"abc", 2}, {"abcde", 4}, {"aba", 1}, {"abcdeabcdeabcdeabcde", 4}} {
		expectZero(t, "RankOfProper", results(impl.RankOfProper(c.fence, c.tints, false)))
		expectZero(t, "NextProper", results(impl.NextProper(c.fence, c.tints, false)))
		expect(t, "IsProper", results(impl.IsProper(c.fence, false)), true, true)
	}
	// These are not proper with any tints.
	for _, fence := range []string{".", "aa", "a.b", "ab.", ".ab", "abb", "aab", "ababababababababab..", mostBoards} {
		expectZero(t, "RankOfProper", results(impl.RankOfProper(fence, 5, false)))
		expectZero(t, "NextProper", results(impl.NextProper(fence, 5, false)))
	}
	for _, fence := range []string{"aba", "abca", "bcb", "abcdeabcdeabcdeabcda"} {
		expectZero(t, "RankOfProper", results(impl.RankOfProper(fence, 5, true)))
		expectZero(t, "NextProper", results(impl.NextProper(fence, 5, true)))
	}
}

func TestCountsOnce(t *testing.T) {
	for _, c := range []struct{ boards, tints, all, mirrored int }{
		{1, 1, 1, 1}, {1, 2, 0, 2}, {1, 5, 0, 5}, {2, 1, 0, 0}, {2, 2, 2, 1}, {2, 5, 0, 10}, {3, 2, 2, 2}, {4, 5, 0, 160}, {5, 5, 120, 680},
		{20, 1, 0, 0}, {20, 2, 2, 1}, {19, 2, 2, 2}, {20, 3, 3<<19 - 6, 3 << 18}, {20, 5, 5<<38 - 5*4*1162261467 + 10*3<<19 - 20, 5 << 37},
		{19, 5, 5<<36 - 5*4*387420489 + 10*3<<18 - 20, (5<<36 + 5<<18) / 2},
	} {
		expect(t, "CountAllTints", results(impl.CountAllTints(c.boards, c.tints)), c.all, true)
		expect(t, "CountMirrored", results(impl.CountMirrored(c.boards, c.tints)), c.mirrored, true)
	}
	for _, c := range []struct{ boards, tints, turned int }{
		{3, 1, 0}, {3, 2, 0}, {3, 5, 20}, {4, 2, 1}, {4, 3, 6}, {5, 2, 0}, {6, 2, 1}, {20, 1, 0}, {20, 2, 1}, {19, 2, 0}, {19, 3, (1<<19 - 2) / 19},
		{19, 5, (1<<38 - 4) / 19}, {20, 5, plainTurned(20, 5)},
	} {
		expect(t, "CountTurned", results(impl.CountTurned(c.boards, c.tints)), c.turned, true)
	}
}

// plainTurned counts fences by their least parts that are repeated: those of just so many boards, each of which turns to
// as many fences.
func plainTurned(boards int, tints int) int {
	least := map[int]int{}
	turned := 0
	for part := 1; part <= boards; part++ {
		if boards%part > 0 {
			continue
		}
		least[part] = plainAround(part, tints)
		for smaller := 1; smaller < part; smaller++ {
			if part%smaller == 0 {
				least[part] -= least[smaller]
			}
		}
		turned += least[part] / part
	}
	return turned
}

func plainAround(boards int, tints int) int {
	power := 1
	for range boards {
		power *= tints - 1
	}
	if boards%2 == 1 {
		return power - (tints - 1)
	}
	return power + tints - 1
}

func TestListed(t *testing.T) {
	many := slices.Repeat([]string{allTints}, 20)
	for _, c := range []struct {
		lists []string
		count int
		first string
	}{
		{[]string{"a"}, 1, "a"}, {[]string{"e"}, 1, "e"}, {[]string{allTints}, 5, "a"}, {[]string{"bd"}, 2, "b"}, {[]string{"a", "b"}, 1, "ab"},
		{[]string{"ab", "ab"}, 2, "ab"}, {[]string{"ab", "bc"}, 3, "ab"}, {[]string{"ac", "ab", "b"}, 1, "cab"},
		{many, 5 << 38, "abababababababababab"}, {slices.Repeat([]string{"de"}, 20), 2, "dededededededededede"},
	} {
		expect(t, "CountListed", results(impl.CountListed(c.lists)), c.count, true)
		expect(t, "FirstListed", results(impl.FirstListed(c.lists)), c.first, true)
	}
	for _, lists := range [][]string{{"a", "a"}, {"ab", "a", "b", "b"}, {"ab", "a", "ab", "b", "b"}, slices.Repeat([]string{"c"}, 20)} {
		expect(t, "CountListed", results(impl.CountListed(lists)), 0, true)
		expectZero(t, "FirstListed", results(impl.FirstListed(lists)))
	}
}

func TestCosts(t *testing.T) {
	for _, c := range []struct {
		costs [][]int
		least int
		first string
	}{
		{[][]int{{0}}, 0, "a"}, {[][]int{{100}}, 100, "a"}, {[][]int{{3, 2}}, 2, "b"}, {[][]int{{2, 2, 2, 2, 2}}, 2, "a"},
		{[][]int{{5, 4, 3, 2, 1}}, 1, "e"}, {[][]int{{1, 2}, {1, 2}}, 3, "ab"}, {[][]int{{1, 5}, {1, 2}}, 3, "ab"}, {[][]int{{5, 1}, {5, 1}}, 6, "ab"},
		{[][]int{{0, 9, 9}, {0, 1, 1}, {0, 9, 9}}, 1, "aba"}, {[][]int{{0, 9, 9}, {0, 11, 10}, {0, 9, 9}}, 10, "aca"},
		{[][]int{{0, 9, 9}, {0, 20, 20}, {0, 9, 9}}, 18, "bab"}, {slices.Repeat([][]int{{100, 100, 100, 100, 100}}, 20), 2000, "abababababababababab"},
		{slices.Repeat([][]int{{0, 0, 0, 0, 0}}, 20), 0, "abababababababababab"}, {slices.Repeat([][]int{{0, 100}}, 20), 1000, "abababababababababab"},
		{slices.Repeat([][]int{{100, 100, 100, 0, 100}}, 19), 900, "dadadadadadadadadad"}, {slices.Repeat([][]int{{7, 8, 100, 0, 1}}, 20), 10, "dededededededededede"},
	} {
		expect(t, "LeastCost", results(impl.LeastCost(c.costs)), c.least, true)
		expect(t, "FirstCheapest", results(impl.FirstCheapest(c.costs)), c.first, true)
	}
	for _, costs := range [][][]int{{{0}, {0}}, {{1}, {2}, {3}}, slices.Repeat([][]int{{100}}, 20)} {
		expectZero(t, "LeastCost", results(impl.LeastCost(costs)))
		expectZero(t, "FirstCheapest", results(impl.FirstCheapest(costs)))
	}
}

func TestFills(t *testing.T) {
	bare := strings.Repeat(".", 20)
	for _, c := range []struct {
		fence  string
		tints  int
		around bool
		count  int
		first  string
	}{
		{".", 1, false, 1, "a"}, {".", 5, false, 5, "a"}, {"a", 1, false, 1, "a"}, {"e", 5, false, 1, "e"}, {"..", 2, false, 2, "ab"},
		{".a", 2, false, 1, "ba"}, {"...", 3, true, 6, "abc"}, {"a..", 3, true, 2, "abc"}, {"..c", 3, true, 2, "abc"}, {".b.", 5, true, 12, "abc"},
		{"abc", 3, true, 1, "abc"}, {"a.a", 2, false, 1, "aba"}, {"a..b", 3, false, 3, "abab"}, {"c..c", 3, true, 0, ""}, {"c..c", 3, false, 2, "cabc"},
		{bare, 5, false, 5 << 38, "abababababababababab"}, {bare, 5, true, 1<<40 + 4, "abababababababababab"}, {bare, 2, true, 2, "abababababababababab"},
		{bare[:19] + "a", 2, true, 1, "babababababababababa"}, {"b" + bare[:18] + "a", 2, false, 1, "babababababababababa"},
		{"a..a", 2, false, 0, ""}, {"aa", 5, false, 0, ""}, {"b", 1, false, 0, ""}, {"e...", 4, false, 0, ""}, {"...c", 2, true, 0, ""},
		{"...", 2, true, 0, ""}, {"..", 1, false, 0, ""}, {"ab.a", 5, true, 0, ""}, {"a.", 1, false, 0, ""}, {bare[:19], 2, true, 0, ""},
	} {
		expect(t, "CountFills "+c.fence, results(impl.CountFills(c.fence, c.tints, c.around)), c.count, true)
		expect(t, "FillProper "+c.fence, results(impl.FillProper(c.fence, c.tints, c.around)), c.first, c.count > 0)
	}
}

func TestRepaints(t *testing.T) {
	bare, one := strings.Repeat(".", 20), strings.Repeat("c", 20)
	for _, c := range []struct {
		fence  string
		tints  int
		around bool
		fewest int
		first  string
	}{
		{"a", 1, false, 0, "a"}, {".", 1, false, 1, "a"}, {"b", 1, false, 1, "a"}, {"e", 4, false, 1, "a"}, {"e", 5, false, 0, "e"},
		{"aa", 2, false, 1, "ab"}, {"bb", 2, false, 1, "ab"}, {"..", 5, false, 2, "ab"}, {".b", 5, false, 1, "ab"}, {".a", 5, false, 1, "ba"},
		{"aaa", 3, true, 2, "abc"}, {"aaa", 3, false, 1, "aba"}, {"aba", 3, true, 1, "abc"}, {"abc", 3, true, 0, "abc"}, {"...", 5, true, 3, "abc"},
		{"eee", 4, true, 3, "abc"}, {"ddd", 4, true, 2, "abd"}, {"aaaa", 2, true, 2, "abab"}, {"baab", 2, true, 2, "abab"},
		{bare, 5, true, 20, "abababababababababab"}, {bare, 5, false, 20, "abababababababababab"}, {one, 5, false, 10, "acacacacacacacacacac"},
		{one, 5, true, 10, "acacacacacacacacacac"}, {one[:19], 5, false, 9, "cacacacacacacacacac"}, {one[:19], 3, true, 10, "abcacacacacacacacac"},
		{one, 2, true, 20, "abababababababababab"},
	} {
		expect(t, "FewestRepaints "+c.fence, results(impl.FewestRepaints(c.fence, c.tints, c.around)), c.fewest, true)
		expect(t, "FirstRepainted "+c.fence, results(impl.FirstRepainted(c.fence, c.tints, c.around)), c.first, true)
	}
	for _, c := range []struct {
		fence  string
		tints  int
		around bool
	}{{"ab", 1, false}, {"..", 1, false}, {one, 1, false}, {"aba", 2, true}, {"...", 1, true}, {one[:19], 2, true}, {bare, 1, true}} {
		expectZero(t, "FewestRepaints", results(impl.FewestRepaints(c.fence, c.tints, c.around)))
		expectZero(t, "FirstRepainted", results(impl.FirstRepainted(c.fence, c.tints, c.around)))
	}
}

func TestLongestProper(t *testing.T) {
	for _, c := range []struct {
		fence       string
		first, long int
	}{
		{"a", 0, 1}, {"aa", 0, 1}, {".a", 1, 1}, {"a.", 0, 1}, {"..e", 2, 1}, {"ab", 0, 2}, {"a.ab", 2, 2}, {"ab.cd", 0, 2}, {"aab", 1, 2}, {"abb", 0, 2},
		{"abba", 0, 2}, {"abbab", 2, 3}, {"a..bc.abc", 6, 3}, {strings.Repeat("e", 20), 0, 1}, {mostBoards, 0, 19}, {"." + mostBoards[:19], 1, 19},
		{"abcdeabcdeabcdeabcde", 0, 20}, {"abcdeabcdeedcbaedcba", 0, 10}, {"abcdeabcdabcdeabcded", 0, 20}, {"..................ab", 18, 2},
	} {
		expect(t, "LongestProper "+c.fence, results(impl.LongestProper(c.fence)), c.first, c.long, true)
	}
	for boards := range 20 {
		expectZero(t, "LongestProper", results(impl.LongestProper(strings.Repeat(".", boards+1))))
	}
}

func TestTurns(t *testing.T) {
	for _, c := range []struct {
		fence  string
		by     int
		turned string
	}{
		{"abc", 0, "abc"}, {"abc", 1, "bca"}, {"abc", 2, "cab"}, {"aaa", 2, "aaa"}, {"..a", 2, "a.."}, {"...", 1, "..."}, {mostBoards, 0, mostBoards},
		{mostBoards, 19, "." + mostBoards[:19]}, {mostBoards, 7, mostBoards[7:] + mostBoards[:7]},
	} {
		expect(t, "TurnFence "+c.fence, results(impl.TurnFence(c.fence, c.by)), c.turned, true)
	}
	for _, c := range []struct {
		fence string
		least string
		by    int
	}{
		{"abc", "abc", 0}, {"bca", "abc", 2}, {"cab", "abc", 1}, {"aaa", "aaa", 0}, {"...", "...", 0}, {"ab.", ".ab", 2}, {"baba", "abab", 1},
		{"a.a.", ".a.a", 1}, {"bbba", "abbb", 3}, {"abab", "abab", 0}, {"aabaa", "aaaab", 3}, {mostBoards, "." + mostBoards[:19], 19},
		{strings.Repeat("ba", 10), strings.Repeat("ab", 10), 1}, {strings.Repeat("edcba", 4), strings.Repeat("aedcb", 4), 4},
	} {
		expect(t, "LeastTurn "+c.fence, results(impl.LeastTurn(c.fence)), c.least, c.by, true)
	}
}
