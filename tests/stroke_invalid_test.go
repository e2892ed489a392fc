package tests

import (
	"math"
	"math/rand"
	"reflect"
	"slices"
	"strings"
	"testing"

	"loop.example/g01373/impl"
)

// Promise 11: every function accepts all arguments without panicking and modifies none of them.

func noFences() []string {
	return []string{
		"", tooMany, strings.Repeat(".", 21), strings.Repeat("a", 5000), "f", "A", " ", "`", "a b", "ab\n", "\x00",
		"-", "/", "a/b", "ab,", "\xe1", "é", "abé", "ａ", "0", "?",
	}
}

func noStrokes() []impl.Stroke {
	return []impl.Stroke{
		{}, stroke(0, 0, ""), stroke(0, 0, "."), stroke(0, 0, "f"), stroke(0, 0, "A"), stroke(0, 0, "ab"), stroke(0, 0, "aa"),
		stroke(0, 0, "a "), stroke(0, 0, "é"), stroke(0, 0, "\xff"), stroke(-1, 0, "a"), stroke(-1, -1, "a"), stroke(1, 0, "a"),
		stroke(2, 1, "a"), stroke(0, 20, "a"), stroke(20, 20, "a"), stroke(19, 20, "e"),
		stroke(math.MinInt, math.MaxInt, "a"), stroke(math.MaxInt, math.MaxInt, "a"), stroke(math.MinInt, math.MinInt, "a"),
		stroke(0, math.MaxInt, "a"), stroke(math.MinInt, 0, "a"), stroke(math.MaxInt, math.MinInt, "a"),
	}
}

// noLists returns lists with one thing wrong each, at the beginning, in the middle or at the end.
func noLists() [][]impl.Stroke {
	lists := [][]impl.Stroke{manyStrokes(impl.MaxStrokes + 1), manyStrokes(300)}
	for _, s := range noStrokes() {
		for _, at := range []int{0, 1, 3} {
			lists = append(lists, slices.Insert(manyStrokes(3), at, s))
		}
	}
	return lists
}

// listCalls are all functions with a list as an argument.
func listCalls(fence string, list []impl.Stroke) map[string][]any {
	return map[string][]any{
		"PaintAll":        results(impl.PaintAll(fence, list)),
		"NeedlessStrokes": results(impl.NeedlessStrokes(fence, list)),
		"SeenStrokes":     results(impl.SeenStrokes(fence, list)),
		"CoatsOf":         results(impl.CoatsOf(fence, list)),
		"PaintUsed":       results(impl.PaintUsed(fence, list)),
	}
}

// fenceCalls are all functions of one fence.
func fenceCalls(fence string) map[string][]any {
	return map[string][]any{
		"RunsOf":        results(impl.RunsOf(fence)),
		"CountRuns":     results(impl.CountRuns(fence)),
		"FewestStrokes": results(impl.FewestStrokes(fence)),
		"LongestRun":    results(impl.LongestRun(fence)),
		"ColoursOf":     results(impl.ColoursOf(fence)),
		"MirrorFence":   results(impl.MirrorFence(fence)),
	}
}

// pairCalls are all functions that lead from one fence to another one.
func pairCalls(from string, to string) map[string][]any {
	return map[string][]any{
		"FewestOver": results(impl.FewestOver(from, to)),
		"FirstOver":  results(impl.FirstOver(from, to)),
		"KeptBoards": results(impl.KeptBoards(from, to)),
	}
}

func expectAllZero(t *testing.T, told string, calls map[string][]any) {
	t.Helper()
	for name, got := range calls {
		expectZero(t, name+" "+told, got)
	}
}

func TestInvalidFences(t *testing.T) {
	for _, fence := range noFences() {
		expectAllZero(t, fence, fenceCalls(fence))
		expectAllZero(t, fence, listCalls(fence, nil))
		expectAllZero(t, fence, listCalls(fence, []impl.Stroke{stroke(0, 0, "a")}))
		expectAllZero(t, fence, listCalls(fence, manyStrokes(300)))
		expectAllZero(t, fence, pairCalls(fence, fence))
		expectAllZero(t, fence, pairCalls(fence, "ab"))
		expectAllZero(t, fence, pairCalls("ab", fence))
		expectAllZero(t, fence, pairCalls(fence, strings.Repeat("a", min(len(fence), 20))))
		expectZero(t, "IsStroke "+fence, results(impl.IsStroke(fence, stroke(0, 0, "a"))))
		expectZero(t, "PaintStroke "+fence, results(impl.PaintStroke(fence, stroke(0, 0, "a"))))
		expectZero(t, "JoinFences "+fence, results(impl.JoinFences(fence, "a")))
		expectZero(t, "JoinFences "+fence, results(impl.JoinFences("a", fence)))
		expectZero(t, "JoinFences "+fence, results(impl.JoinFences(fence, fence)))
	}
}

func TestInvalidNumbers(t *testing.T) {
	for _, boards := range []int{0, -1, 21, 1000, math.MaxInt, math.MinInt} {
		expectZero(t, "BareFence", results(impl.BareFence(boards)))
	}
}

func TestInvalidStrokes(t *testing.T) {
	for _, s := range noStrokes() {
		for _, fence := range []string{"a", "abc", "...", mostBoards} {
			expectZero(t, "PaintStroke "+fence, results(impl.PaintStroke(fence, s)))
		}
		expectZero(t, "PaintStroke", results(impl.PaintStroke("", s)))
		expectZero(t, "IsStroke", results(impl.IsStroke(tooMany, s)))
	}
	// These are strokes of other fences.
	expectZero(t, "PaintStroke", results(impl.PaintStroke("abc", stroke(0, 3, "a"))))
	expectZero(t, "PaintStroke", results(impl.PaintStroke("abc", stroke(3, 3, "a"))))
	expectAllZero(t, "abc", listCalls("abc", []impl.Stroke{stroke(0, 2, "a"), stroke(0, 3, "a")}))
}

func TestInvalidLists(t *testing.T) {
	for _, list := range noLists() {
		for _, fence := range []string{"abc", "...", mostBoards} {
			expectAllZero(t, fence, listCalls(fence, list))
		}
		expectZero(t, "StrokesText", results(impl.StrokesText(list)))
	}
	for _, got := range listCalls(mostBoards, manyStrokes(impl.MaxStrokes)) {
		if got[len(got)-1] != true {
			t.Error("a list of MaxStrokes is one", got)
		}
	}
}

func TestInvalidPairs(t *testing.T) {
	for _, c := range [][2]string{
		{"ab", "abc"}, {"abc", "ab"}, {".", ".."}, {"a", mostBoards}, {"a", "."}, {"abc", "a.c"}, {"abc", "..."},
		{"..c", "..."}, {"a..", "..a"}, {mostBoards, strings.Repeat(".", 20)}, {strings.Repeat(".", 11) + "a", strings.Repeat(".", 12)},
	} {
		expectAllZero(t, c[0]+" "+c[1], pairCalls(c[0], c[1]))
	}
}

func TestInvalidTexts(t *testing.T) {
	for _, text := range []string{
		" ", ",", "0", "0-", "-", "-0a", "0-a", "0a", "0-0", "0-0f", "0-0.", "0-0A", "0-0aa", "0-0é", "1-0a", "0-20a", "20-20a", "00-0a",
		"0-00a", "01-2a", "1-02a", "+0-0a", "0-+0a", "-0-0a", "0--0a", "-1-0a", "0-0a,", ",0-0a", "0-0a,,0-0a", "0-0a, 0-0a", " 0-0a",
		"0-0a ", "0-0a\n", "0-0a;0-0a", "0 -0a", "0- 0a", "0-0 a", "0_0-1a", "0x1-2a", "0-1_0a", "٣-3a", "99999999999999999999-0a",
		"0-18446744073709551616a", strings.Repeat("0-0a,", 40) + "0-0a", strings.Repeat("0-0a,", 10000), strings.Repeat("0", 5000) + "-0a",
		strings.Repeat("0-0a,", 39) + "0-0a,",
	} {
		expectZero(t, "ParseStrokes "+text, results(impl.ParseStrokes(text)))
	}
}

// TestArgumentsStay looks at the elements of lists, and at what is behind them.
func TestArgumentsStay(t *testing.T) {
	r := rand.New(rand.NewSource(6))
	for range 200 {
		boards := 1 + r.Intn(20)
		fence := randomFence(r, boards, ".abcde")
		room := append(randomStrokes(r, boards, 50), noStrokes()...)
		before := slices.Clone(room)
		for _, long := range []int{0, 1, r.Intn(40), 40, 41, len(room)} {
			listCalls(fence, room[:long])
			impl.StrokesText(room[:long])
			clipped := slices.Clip(slices.Clone(room[:long]))
			for name, got := range listCalls(fence, room[:long]) {
				expect(t, name, got, listCalls(fence, clipped)[name]...)
			}
			expect(t, "StrokesText", results(impl.StrokesText(room[:long])), results(impl.StrokesText(clipped))...)
		}
		if !reflect.DeepEqual(room, before) {
			t.Fatal("a list is changed")
		}
	}
}

// TestResultsAreNew spoils the results of a call: neither its arguments nor the next call's results may show it.
func TestResultsAreNew(t *testing.T) {
	list := manyStrokes(7)
	before := slices.Clone(list)
	again := func() []map[string][]any {
		parsed := map[string][]any{"ParseStrokes": results(impl.ParseStrokes("0-2a,1-1b"))}
		return []map[string][]any{listCalls("a.c", list), fenceCalls("aa.b"), pairCalls("ab.ab", "ba.ab"), parsed}
	}
	want := again()
	for _, calls := range again() {
		for _, got := range calls {
			spoil(got)
		}
	}
	if !reflect.DeepEqual(list, before) {
		t.Error("a list shares memory with a result")
	}
	if got := again(); !reflect.DeepEqual(got, want) {
		t.Errorf("got %v, want %v", got, want)
	}
}

// TestAnyArguments calls all functions with whatever comes: they return, with zero values where they fail.
func TestAnyArguments(t *testing.T) {
	r := rand.New(rand.NewSource(7))
	numbers := []int{math.MinInt, -1, 0, 1, 2, 3, 11, 12, 13, 19, 20, 21, 40, math.MaxInt}
	texts := append(noFences(), ".", "a", "ab", "a.c", mostBoards, shortBoards, shortBoards+"a", "0-0a", "0-0a,1-1b")
	colours := []string{"", ".", "a", "b", "e", "f", "ab", "\xff"}
	for range 3000 {
		var list []impl.Stroke
		for range r.Intn(6) {
			list = append(list, stroke(numbers[r.Intn(len(numbers))], numbers[r.Intn(len(numbers))], colours[r.Intn(len(colours))]))
		}
		s := stroke(numbers[r.Intn(len(numbers))], numbers[r.Intn(len(numbers))], colours[r.Intn(len(colours))])
		a, b := texts[r.Intn(len(texts))], texts[r.Intn(len(texts))]
		calls := []map[string][]any{listCalls(a, list), fenceCalls(a), pairCalls(a, b), {
			"IsStroke":     results(impl.IsStroke(a, s)),
			"PaintStroke":  results(impl.PaintStroke(a, s)),
			"BareFence":    results(impl.BareFence(s.From)),
			"JoinFences":   results(impl.JoinFences(a, b)),
			"StrokesText":  results(impl.StrokesText(list)),
			"ParseStrokes": results(impl.ParseStrokes(a)),
		}}
		for _, kind := range calls {
			for name, got := range kind {
				if got[len(got)-1] == false {
					expectZero(t, name, got)
				}
			}
		}
	}
}
