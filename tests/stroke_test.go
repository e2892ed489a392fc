package tests

import (
	"math/rand"
	"slices"
	"strings"
	"testing"

	"loop.example/g01373/impl"
)

// Promise 1: strokes paint just their boards, and first lists of them lead to the fence and are as few as told.

func TestStrokeConstants(t *testing.T) {
	if impl.MaxBoards != 20 || impl.MaxStrokes != 40 || impl.MaxShort != 12 {
		t.Error("limits", impl.MaxBoards, impl.MaxStrokes, impl.MaxShort)
	}
}

func TestStrokeExample(t *testing.T) {
	expect(t, "FewestStrokes", results(impl.FewestStrokes("abcba")), 3, true)
	expect(t, "FirstOver", results(impl.FirstOver(".....", "abcba")), strokes(t, "0-4a,1-3b,2-2c"), true)
	expect(t, "FewestOver", results(impl.FewestOver("aacaa", "abcba")), 2, true)
	expect(t, "FirstOver", results(impl.FirstOver("aacaa", "abcba")), strokes(t, "1-1b,3-3b"), true)
	expect(t, "KeptBoards", results(impl.KeptBoards("aacaa", "abcba")), []int{0, 2, 4}, true)
	list := strokes(t, "0-2a,1-1b,0-0a")
	expect(t, "NeedlessStrokes", results(impl.NeedlessStrokes("...", list)), []int{2}, true)
	expect(t, "SeenStrokes", results(impl.SeenStrokes("...", list)), []int{0, 1, 2}, true)
	expect(t, "CoatsOf", results(impl.CoatsOf("...", list)), []int{2, 2, 1}, true)
	expect(t, "PaintUsed", results(impl.PaintUsed("...", list)), 5, true)
	expect(t, "RunsOf", results(impl.RunsOf("aa.b")), strokes(t, "0-1a,3-3b"), true)
	expect(t, "CountRuns", results(impl.CountRuns("aa.b")), 3, true)
}

func TestIsFence(t *testing.T) {
	for _, fence := range []string{".", "a", "e", "abcde.", "....", mostBoards, strings.Repeat(".", impl.MaxBoards)} {
		if !impl.IsFence(fence) {
			t.Errorf("%q is a fence", fence)
		}
	}
	for _, fence := range noFences() {
		if impl.IsFence(fence) {
			t.Errorf("%q is no fence", fence)
		}
	}
	for letter := range 256 {
		text := string([]byte{'a', byte(letter)})
		if want := letter == '.' || letter >= 'a' && letter <= 'e'; impl.IsFence(text) != want {
			t.Errorf("%q should be %v", text, want)
		}
	}
}

func TestBareFence(t *testing.T) {
	for boards := 1; boards <= impl.MaxBoards; boards++ {
		expect(t, "BareFence", results(impl.BareFence(boards)), strings.Repeat(".", boards), true)
	}
}

func TestIsStroke(t *testing.T) {
	fences := []string{".", "a", "abc", "...", mostBoards}
	for _, fence := range fences {
		for from := -2; from <= len(fence)+1; from++ {
			for to := -2; to <= len(fence)+1; to++ {
				want := 0 <= from && from <= to && to < len(fence)
				expect(t, "IsStroke", results(impl.IsStroke(fence, stroke(from, to, "c"))), want, true)
			}
		}
	}
	for letter := range 256 {
		want := letter >= 'a' && letter <= 'e'
		expect(t, "IsStroke", results(impl.IsStroke("ab", stroke(0, 1, string([]byte{byte(letter)})))), want, true)
	}
	for _, s := range noStrokes() {
		expect(t, "IsStroke", results(impl.IsStroke("abc", s)), false, true)
	}
}

func TestPaintStroke(t *testing.T) {
	expect(t, "PaintStroke", results(impl.PaintStroke(".....", stroke(1, 3, "b"))), ".bbb.", true)
	expect(t, "PaintStroke", results(impl.PaintStroke("abcde", stroke(0, 4, "e"))), "eeeee", true)
	expect(t, "PaintStroke", results(impl.PaintStroke(".", stroke(0, 0, "d"))), "d", true)
	expect(t, "PaintStroke", results(impl.PaintStroke("a", stroke(0, 0, "a"))), "a", true)
	for _, fence := range []string{"a.c", mostBoards, strings.Repeat(".", impl.MaxBoards)} {
		for _, s := range allStrokes(len(fence), "abcde") {
			expect(t, "PaintStroke", results(impl.PaintStroke(fence, s)), plainPaint(fence, []impl.Stroke{s}), true)
		}
	}
}

func TestPaintAll(t *testing.T) {
	expect(t, "PaintAll", results(impl.PaintAll(".....", strokes(t, "0-4a,1-3b,2-2c"))), "abcba", true)
	expect(t, "PaintAll", results(impl.PaintAll(".....", strokes(t, "2-2c,1-3b,0-4a"))), "aaaaa", true)
	for _, fence := range []string{".", "a", "a.c", mostBoards} {
		expect(t, "PaintAll", results(impl.PaintAll(fence, nil)), fence, true)
		expect(t, "PaintAll", results(impl.PaintAll(fence, []impl.Stroke{})), fence, true)
	}
	list := manyStrokes(impl.MaxStrokes)
	expect(t, "PaintAll", results(impl.PaintAll(mostBoards, list)), plainPaint(mostBoards, list), true)
}

func TestRuns(t *testing.T) {
	cases := []struct {
		fence string
		runs  string
		many  int
	}{
		{".", "", 1},
		{"a", "0-0a", 1},
		{"....", "", 1},
		{"aaaa", "0-3a", 1},
		{"abab", "0-0a,1-1b,2-2a,3-3b", 4},
		{"a.a", "0-0a,2-2a", 3},
		{"..bb..", "2-3b", 3},
		{"eeddc", "0-1e,2-3d,4-4c", 3},
		{strings.Repeat(".", 20), "", 1},
		{strings.Repeat("e", 20), "0-19e", 1},
		{strings.Repeat("ab", 5) + strings.Repeat(".c", 5), "0-0a,1-1b,2-2a,3-3b,4-4a,5-5b,6-6a,7-7b,8-8a,9-9b,11-11c,13-13c,15-15c,17-17c,19-19c", 20},
	}
	for _, c := range cases {
		expect(t, "RunsOf "+c.fence, results(impl.RunsOf(c.fence)), strokes(t, c.runs), true)
		expect(t, "CountRuns "+c.fence, results(impl.CountRuns(c.fence)), c.many, true)
	}
}

func TestRunsPaintTheFence(t *testing.T) {
	r := rand.New(rand.NewSource(1))
	for range 500 {
		fence := randomFence(r, 1+r.Intn(20), ".aabc")
		runs, ok := impl.RunsOf(fence)
		bare := strings.Repeat(".", len(fence))
		if !ok || plainPaint(bare, runs) != fence {
			t.Errorf("%s: runs %v", fence, runs)
		}
	}
}

func TestNeedlessStrokes(t *testing.T) {
	cases := []struct{ fence, list, want string }{
		{"...", "", ""},
		{"...", "0-0a", ""},
		{"aaa", "0-0a", "0"},
		{"...", "0-2a,0-2a", "01"},
		{"...", "0-2a,0-2b", "0"},
		{"a", "0-0b,0-0a", "0"},
		{"a", "0-0a", "0"},
		{".", "0-0a", ""},
		{"abc", "0-1b,0-0a,1-1b", "02"},
		{"abc", "0-1b,0-0a", "0"},
		{"...", "0-1a,1-2a", ""},
		{"...", "0-2a,0-1a,1-2a", "012"},
	}
	for _, c := range cases {
		expect(t, "NeedlessStrokes "+c.fence+" "+c.list, results(impl.NeedlessStrokes(c.fence, strokes(t, c.list))), indices(c.want), true)
	}
}

func TestSeenStrokes(t *testing.T) {
	cases := []struct{ fence, list, want string }{
		{"...", "", ""},
		{".", "0-0a", "0"},
		{"aaa", "0-0a", "0"},
		{"...", "0-2a,0-2a", "1"},
		{"...", "0-2a,0-0b,1-2b", "12"},
		{"...", "0-2a,0-0b,2-2b", "012"},
		{"...", "0-1a,1-2b,0-0c", "12"},
		{"a", "0-0b,0-0a", "1"},
	}
	for _, c := range cases {
		expect(t, "SeenStrokes "+c.fence+" "+c.list, results(impl.SeenStrokes(c.fence, strokes(t, c.list))), indices(c.want), true)
	}
}

func indices(text string) []int {
	var list []int
	for _, r := range text {
		list = append(list, int(r-'0'))
	}
	return list
}

func TestCoatsAndPaint(t *testing.T) {
	expect(t, "CoatsOf", results(impl.CoatsOf(".", nil)), []int{0}, true)
	expect(t, "PaintUsed", results(impl.PaintUsed(".", nil)), 0, true)
	expect(t, "CoatsOf", results(impl.CoatsOf(mostBoards, []impl.Stroke{})), make([]int, 20), true)
	expect(t, "CoatsOf", results(impl.CoatsOf("....", strokes(t, "1-2a,2-3b"))), []int{0, 1, 2, 1}, true)
	expect(t, "PaintUsed", results(impl.PaintUsed("....", strokes(t, "1-2a,2-3b"))), 4, true)
	expect(t, "CoatsOf", results(impl.CoatsOf("a", strokes(t, "0-0a,0-0a,0-0b"))), []int{3}, true)
	all := slices.Repeat([]impl.Stroke{stroke(0, 19, "a")}, impl.MaxStrokes)
	expect(t, "CoatsOf", results(impl.CoatsOf(mostBoards, all)), slices.Repeat([]int{40}, 20), true)
	expect(t, "PaintUsed", results(impl.PaintUsed(mostBoards, all)), 800, true)
}

// TestLists holds all functions of lists against what a slow look at each board tells.
func TestLists(t *testing.T) {
	r := rand.New(rand.NewSource(2))
	for range 600 {
		boards := 1 + r.Intn(20)
		fence := randomFence(r, boards, ".abc")
		list := randomStrokes(r, boards, r.Intn(41))
		behind := plainPaint(fence, list)
		coats, used := make([]int, boards), 0
		var needless, seen []int
		for i, s := range list {
			if plainPaint(fence, without(list, i)) == behind {
				needless = append(needless, i)
			}
			open := false
			for board := s.From; board <= s.To; board++ {
				coats[board]++
				used++
				later := slices.ContainsFunc(list[i+1:], func(l impl.Stroke) bool { return l.From <= board && board <= l.To })
				open = open || !later
			}
			if open {
				seen = append(seen, i)
			}
		}
		expect(t, "PaintAll", results(impl.PaintAll(fence, list)), behind, true)
		expect(t, "NeedlessStrokes", results(impl.NeedlessStrokes(fence, list)), needless, true)
		expect(t, "SeenStrokes", results(impl.SeenStrokes(fence, list)), seen, true)
		expect(t, "CoatsOf", results(impl.CoatsOf(fence, list)), coats, true)
		expect(t, "PaintUsed", results(impl.PaintUsed(fence, list)), used, true)
	}
}

func TestLongestRun(t *testing.T) {
	cases := []struct {
		fence       string
		first, long int
	}{
		{"a", 0, 1},
		{"abc", 0, 1},
		{".b", 1, 1},
		{"aabb", 0, 2},
		{"abbcc", 1, 2},
		{"a....bb", 5, 2},
		{"aabbb.bbbb", 6, 4},
		{strings.Repeat("c", 20), 0, 20},
		{strings.Repeat(".", 19) + "e", 19, 1},
	}
	for _, c := range cases {
		expect(t, "LongestRun "+c.fence, results(impl.LongestRun(c.fence)), c.first, c.long, true)
	}
	for _, fence := range []string{".", "...", strings.Repeat(".", 20)} {
		expect(t, "LongestRun "+fence, results(impl.LongestRun(fence)), 0, 0, false)
	}
}

func TestColoursOf(t *testing.T) {
	for fence, want := range map[string]string{".": "", "....": "", "a": "a", "e": "e", "ecaac.": "ace", "dcba": "abcd", mostBoards: "abcde"} {
		expect(t, "ColoursOf "+fence, results(impl.ColoursOf(fence)), want, true)
	}
}

func TestMirrorFence(t *testing.T) {
	for fence, want := range map[string]string{".": ".", "d": "d", "ab.": ".ba", "aba": "aba", mostBoards: ".dcbaedcbaedcbaedcba"} {
		expect(t, "MirrorFence "+fence, results(impl.MirrorFence(fence)), want, true)
	}
}

func TestJoinFences(t *testing.T) {
	expect(t, "JoinFences", results(impl.JoinFences("ab", ".c")), "ab.c", true)
	expect(t, "JoinFences", results(impl.JoinFences(".", ".")), "..", true)
	expect(t, "JoinFences", results(impl.JoinFences(mostBoards[:19], "e")), mostBoards[:19]+"e", true)
	expect(t, "JoinFences", results(impl.JoinFences(shortBoards, "cba.ccc.")), shortBoards+"cba.ccc.", true)
	expect(t, "JoinFences", results(impl.JoinFences(mostBoards, ".")), "", false)
	expect(t, "JoinFences", results(impl.JoinFences("a", mostBoards)), "", false)
	expect(t, "JoinFences", results(impl.JoinFences(mostBoards, mostBoards)), "", false)
}

func TestStrokesText(t *testing.T) {
	long := slices.Repeat([]impl.Stroke{stroke(10, 19, "e")}, impl.MaxStrokes)
	longText := strings.Repeat("10-19e,", impl.MaxStrokes-1) + "10-19e"
	cases := []struct {
		list []impl.Stroke
		text string
	}{
		{nil, ""},
		{[]impl.Stroke{}, ""},
		{[]impl.Stroke{stroke(0, 0, "a")}, "0-0a"},
		{[]impl.Stroke{stroke(9, 10, "b"), stroke(0, 19, "e"), stroke(19, 19, "c")}, "9-10b,0-19e,19-19c"},
		{long, longText},
	}
	for _, c := range cases {
		expect(t, "StrokesText "+c.text, results(impl.StrokesText(c.list)), c.text, true)
		expect(t, "ParseStrokes "+c.text, results(impl.ParseStrokes(c.text)), c.list, true)
	}
	for _, s := range allStrokes(impl.MaxBoards, "abcde") {
		text, ok := impl.StrokesText([]impl.Stroke{s})
		if !ok {
			t.Errorf("no text of %v", s)
		}
		expect(t, "ParseStrokes "+text, results(impl.ParseStrokes(text)), []impl.Stroke{s}, true)
	}
}
