package tests

import (
	"math/rand"
	"slices"
	"strings"
	"testing"

	"loop.example/g01373/impl"
)

// fenceGraph has all fences of some letters, and where each stroke leads from each of them.
type fenceGraph struct {
	fences  []string
	strokes []impl.Stroke
	next    [][]int
}

func graphOf(boards int, letters string) fenceGraph {
	g := fenceGraph{fences: allFences(boards, letters), strokes: allStrokes(boards, strings.Trim(letters, "."))}
	index := map[string]int{}
	for i, fence := range g.fences {
		index[fence] = i
	}
	for _, fence := range g.fences {
		var next []int
		for _, s := range g.strokes {
			next = append(next, index[plainPaint(fence, []impl.Stroke{s})])
		}
		g.next = append(g.next, next)
	}
	return g
}

// distances returns the least number of strokes from a fence to each one, -1 where there are none.
func (g fenceGraph) distances(from int) []int {
	far := slices.Repeat([]int{-1}, len(g.fences))
	far[from] = 0
	queue := []int{from}
	for len(queue) > 0 {
		at := queue[0]
		queue = queue[1:]
		for _, next := range g.next[at] {
			if far[next] < 0 {
				far[next] = far[at] + 1
				queue = append(queue, next)
			}
		}
	}
	return far
}

func (g fenceGraph) allDistances() [][]int {
	var all [][]int
	for i := range g.fences {
		all = append(all, g.distances(i))
	}
	return all
}

// firstList follows the first stroke that is one stroke nearer, until nothing is left.
func (g fenceGraph) firstList(far [][]int, from int, to int) []impl.Stroke {
	var list []impl.Stroke
	for left := far[from][to]; left > 0; left-- {
		k := slices.IndexFunc(g.next[from], func(next int) bool { return far[next][to] == left-1 })
		list = append(list, g.strokes[k])
		from = g.next[from][k]
	}
	return list
}

func keptBy(boards int, list []impl.Stroke) []int {
	var kept []int
	for board := range boards {
		if !slices.ContainsFunc(list, func(s impl.Stroke) bool { return s.From <= board && board <= s.To }) {
			kept = append(kept, board)
		}
	}
	return kept
}

// TestFewestOverAll holds the numbers against a search through all fences.
func TestFewestOverAll(t *testing.T) {
	for _, c := range []struct {
		boards  int
		letters string
	}{{1, ".abcde"}, {2, ".abcde"}, {3, ".abcde"}, {4, ".abc"}, {5, ".ab"}} {
		g := graphOf(c.boards, c.letters)
		for from, far := range g.allDistances() {
			for to, want := range far {
				name := g.fences[from] + " to " + g.fences[to]
				if want < 0 {
					expect(t, name, results(impl.FewestOver(g.fences[from], g.fences[to])), 0, false)
				} else {
					expect(t, name, results(impl.FewestOver(g.fences[from], g.fences[to])), want, true)
				}
			}
		}
	}
}

// TestFirstOverAll holds the first lists against a search through all fences.
func TestFirstOverAll(t *testing.T) {
	for _, c := range []struct {
		boards  int
		letters string
	}{{1, ".abcde"}, {2, ".abcde"}, {3, ".abc"}, {4, ".ab"}, {5, "ab"}} {
		g := graphOf(c.boards, c.letters)
		far := g.allDistances()
		for i, from := range g.fences {
			for j, to := range g.fences {
				if far[i][j] < 0 {
					expect(t, from+" to "+to, results(impl.FirstOver(from, to)), []impl.Stroke{}, false)
					expect(t, from+" to "+to, results(impl.KeptBoards(from, to)), []int{}, false)
					continue
				}
				want := g.firstList(far, i, j)
				expect(t, from+" to "+to, results(impl.FirstOver(from, to)), want, true)
				expect(t, from+" to "+to, results(impl.KeptBoards(from, to)), keptBy(c.boards, want), true)
			}
		}
	}
}

// TestFewestStrokesAll looks at longer fences from bare boards on.
func TestFewestStrokesAll(t *testing.T) {
	for _, c := range []struct {
		boards  int
		letters string
	}{{4, ".abcde"}, {5, ".abc"}, {6, "abc."}, {9, "ab"}} {
		letters := c.letters
		if !strings.Contains(letters, ".") {
			letters += "."
		}
		g := graphOf(c.boards, letters)
		bare := slices.Index(g.fences, strings.Repeat(".", c.boards))
		for to, want := range g.distances(bare) {
			expect(t, g.fences[to], results(impl.FewestStrokes(g.fences[to])), want, true)
		}
	}
}

func TestFewestStrokes(t *testing.T) {
	cases := map[string]int{
		".":                                 0,
		"a":                                 1,
		strings.Repeat(".", 20):             0,
		strings.Repeat("d", 20):             1,
		strings.Repeat("ab", 10):            11,
		strings.Repeat("a.", 10):            10,
		"abcdeedcba":                        5,
		"abcdeedcba.abcba.cc":               9,
		"abab":                              3,
		"ab.ab":                             4,
		"aaaabbbbaaaabbbb.":                 3,
		"a" + strings.Repeat(".", 18) + "a": 2,
	}
	for fence, want := range cases {
		expect(t, "FewestStrokes "+fence, results(impl.FewestStrokes(fence)), want, true)
	}
}

func TestFewestOver(t *testing.T) {
	most := strings.Repeat("ab", 10)
	cases := []struct {
		from, to string
		want     int
	}{
		{".", ".", 0}, {".", "a", 1}, {"a", "a", 0}, {"a", "b", 1},
		{"aaaaa", "ababa", 2}, {"bbbbb", "ababa", 3}, {"ccccc", "ababa", 3},
		{"a.a", "b.b", 2}, {"aba", "bbb", 1}, {"abcab", "aaaaa", 1},
		{most, most, 0}, {strings.Repeat("a", 20), most, 10}, {strings.Repeat("c", 20), most, 11},
		{strings.Repeat(".", 20), strings.Repeat(".", 20), 0},
	}
	for _, c := range cases {
		expect(t, c.from+" to "+c.to, results(impl.FewestOver(c.from, c.to)), c.want, true)
	}
}

func TestFirstOver(t *testing.T) {
	cases := []struct{ from, to, want string }{
		{".", ".", ""}, {".", "a", "0-0a"}, {"b", "a", "0-0a"}, {"abcab", "abcab", ""},
		{"....", "abab", "0-0a,1-3b,2-2a"},
		{"a.b", "b.a", "0-0b,2-2a"},
		{".a.b", ".b.a", "1-1b,3-3a"},
		{"aba", "bbb", "0-2b"},
		{strings.Repeat(".", 12), strings.Repeat("e", 12), "0-11e"},
		{strings.Repeat(".", 12), strings.Repeat(".", 12), ""},
		{strings.Repeat("a", 12), "a" + strings.Repeat("b", 10) + "a", "1-10b"},
		{strings.Repeat("a", 12), strings.Repeat("ab", 6), "1-1b,3-3b,5-5b,7-7b,9-9b,11-11b"},
	}
	for _, c := range cases {
		want := strokes(t, c.want)
		expect(t, c.from+" to "+c.to, results(impl.FirstOver(c.from, c.to)), want, true)
		expect(t, c.from+" to "+c.to, results(impl.KeptBoards(c.from, c.to)), keptBy(len(c.from), want), true)
	}
}

// TestFirstOverBruteForce tries all lists in order, without a thought to how far a fence is.
func TestFirstOverBruteForce(t *testing.T) {
	r := rand.New(rand.NewSource(3))
	all := allStrokes(4, "abcde")
	for range 40 {
		from, to := randomFence(r, 4, ".abcde"), randomFence(r, 4, "abcde")
		var want []impl.Stroke
		for many := 0; from != to && want == nil; many++ {
			want = firstOfLength(all, from, to, many)
		}
		expect(t, from+" to "+to, results(impl.FirstOver(from, to)), want, true)
	}
}

func firstOfLength(all []impl.Stroke, from string, to string, many int) []impl.Stroke {
	if many == 0 {
		return nil
	}
	for _, s := range all {
		behind := plainPaint(from, []impl.Stroke{s})
		if many == 1 && behind == to {
			return []impl.Stroke{s}
		}
		if rest := firstOfLength(all, behind, to, many-1); rest != nil {
			return append([]impl.Stroke{s}, rest...)
		}
	}
	return nil
}

// TestFirstOverLeads looks at fences too long for a search: lists lead there, are as few as told, and have no needless stroke.
func TestFirstOverLeads(t *testing.T) {
	r := rand.New(rand.NewSource(4))
	for range 300 {
		boards := 5 + r.Intn(impl.MaxShort-4)
		from := randomFence(r, boards, ".abc")
		to, _ := impl.PaintAll(from, randomStrokes(r, boards, r.Intn(12)))
		many, _ := impl.FewestOver(from, to)
		list, ok := impl.FirstOver(from, to)
		if !ok || len(list) != many || plainPaint(from, list) != to {
			t.Errorf("%s to %s: %v, but %d strokes", from, to, list, many)
		}
		expect(t, "NeedlessStrokes", results(impl.NeedlessStrokes(from, list)), []int{}, true)
		expect(t, "KeptBoards", results(impl.KeptBoards(from, to)), keptBy(boards, list), true)
	}
}

// TestFewestOverIsNotMore: a list that is known to lead there is never shorter, and strokes and mirrors agree.
func TestFewestOverIsNotMore(t *testing.T) {
	r := rand.New(rand.NewSource(5))
	for range 1000 {
		boards := 1 + r.Intn(20)
		from := randomFence(r, boards, ".abcde")
		list := randomStrokes(r, boards, r.Intn(10))
		to, _ := impl.PaintAll(from, list)
		seen, _ := impl.SeenStrokes(from, list)
		many, ok := impl.FewestOver(from, to)
		if !ok || many > len(seen) {
			t.Errorf("%s to %s: %d, but by %v", from, to, many, list)
		}
		back, _ := impl.MirrorFence(from)
		there, _ := impl.MirrorFence(to)
		expect(t, "mirrored", results(impl.FewestOver(back, there)), many, true)
		bare := strings.Repeat(".", boards)
		expect(t, "from bare boards", results(impl.FewestOver(bare, to)), first(impl.FewestStrokes(to)), true)
	}
}

func first(n int, _ bool) int { return n }

// TestMaxShort: lists are for MaxShort boards, numbers for MaxBoards.
func TestMaxShort(t *testing.T) {
	for boards := 1; boards <= impl.MaxBoards; boards++ {
		bare, to := strings.Repeat(".", boards), strings.Repeat("a", boards)
		expect(t, "FewestOver", results(impl.FewestOver(bare, to)), 1, true)
		if boards <= impl.MaxShort {
			expect(t, "FirstOver", results(impl.FirstOver(bare, to)), []impl.Stroke{stroke(0, boards-1, "a")}, true)
			expect(t, "KeptBoards", results(impl.KeptBoards(bare, to)), []int{}, true)
		} else {
			expect(t, "FirstOver", results(impl.FirstOver(bare, to)), []impl.Stroke{}, false)
			expect(t, "KeptBoards", results(impl.KeptBoards(bare, to)), []int{}, false)
			expect(t, "FirstOver", results(impl.FirstOver(to, to)), []impl.Stroke{}, false)
			expect(t, "KeptBoards", results(impl.KeptBoards(to, to)), []int{}, false)
		}
	}
}
