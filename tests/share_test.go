package tests

import (
	"fmt"
	"math"
	"slices"
	"strings"
	"testing"

	"loop.example/g01373/impl"
)

// Promise 3: nobody works more than the least by the first share, and painters with rates take no longer than the least time.

func TestShareExample(t *testing.T) {
	widths := []int{3, 5, 2, 4}
	expect(t, "ParseWidths", results(impl.ParseWidths("3-5-2-4")), widths, true)
	expect(t, "WidthsText", results(impl.WidthsText(widths)), "3-5-2-4", true)
	expect(t, "LeastWork", results(impl.LeastWork(widths, 2)), 8, true)
	expect(t, "FirstShare", results(impl.FirstShare(widths, 2)), []int{2, 2}, true)
	expect(t, "WorkOf", results(impl.WorkOf(widths, 2, []int{2, 2})), []int{8, 6}, true)
	expect(t, "CountShares", results(impl.CountShares(widths, 2)), 1, true)
	expect(t, "FewestPainters", results(impl.FewestPainters(widths, 5)), 4, true)
	expect(t, "GreedyShare", results(impl.GreedyShare(widths, 5)), []int{1, 1, 1, 1}, true)
	rates := []int{1, 3}
	expect(t, "LeastTime", results(impl.LeastTime(widths, rates)), 12, true)
	expect(t, "FirstRated", results(impl.FirstRated(widths, rates)), []int{3, 1}, true)
	expect(t, "TimesOf", results(impl.TimesOf(widths, rates, []int{3, 1})), []int{10, 12}, true)
	expect(t, "BestOrder", results(impl.BestOrder(widths, rates)), []int{1, 0}, 11, true)
	expect(t, "MeetTime", results(impl.MeetTime(widths, 1, 3)), 21, 2, true)
	expect(t, "MeetPlace", results(impl.MeetPlace(widths, 1, 3)), 21, 2, true)
	expect(t, "TogetherTime", results(impl.TogetherTime(widths, rates)), 21, 2, true)
	expect(t, "PartOfPainter", results(impl.PartOfPainter(widths, rates, 0)), 3, 4, true)
	expect(t, "PartOfPainter", results(impl.PartOfPainter(widths, rates, 1)), 1, 4, true)
	expect(t, "WidestBoards", results(impl.WidestBoards(widths)), []int{1}, true)
}

func TestAreWidths(t *testing.T) {
	for _, widths := range [][]int{{1}, {100}, {1, 100}, {100, 1, 50}, times(12, 1), times(12, 100)} {
		expect(t, fmt.Sprint("AreWidths ", widths), results(impl.AreWidths(widths)), true)
	}
	for _, widths := range noWidths() {
		expect(t, fmt.Sprint("AreWidths ", widths), results(impl.AreWidths(widths)), false)
	}
}

func TestAreRates(t *testing.T) {
	for _, rates := range [][]int{{1}, {20}, {1, 20}, {20, 1, 10}, times(5, 1), times(5, 20)} {
		expect(t, fmt.Sprint("AreRates ", rates), results(impl.AreRates(rates)), true)
	}
	for _, rates := range noRates() {
		expect(t, fmt.Sprint("AreRates ", rates), results(impl.AreRates(rates)), false)
	}
}

func TestIsShare(t *testing.T) {
	for _, c := range []struct {
		boards int
		share  []int
	}{
		{1, []int{1}}, {1, []int{0, 1}}, {1, []int{1, 0}}, {1, []int{0, 0, 1, 0, 0}}, {4, []int{4}}, {4, []int{0, 4}}, {4, []int{1, 3}}, {4, []int{4, 0, 0}},
		{12, []int{12}}, {12, []int{0, 0, 0, 0, 12}}, {12, []int{3, 3, 2, 2, 2}}, {12, []int{12, 0, 0, 0, 0}}, {3, []int{1, 0, 1, 0, 1}},
	} {
		name := fmt.Sprint("IsShare ", c)
		expect(t, name, results(impl.IsShare(times(c.boards, 7), len(c.share), c.share)), true, true)
		// It is none of fewer or more painters, or boards.
		for painters := 1; painters <= impl.MaxPainters; painters++ {
			expect(t, name, results(impl.IsShare(times(c.boards, 7), painters, c.share)), painters == len(c.share), true)
		}
		for boards := 1; boards <= impl.MaxShared; boards++ {
			expect(t, name, results(impl.IsShare(times(boards, 7), len(c.share), c.share)), boards == c.boards, true)
		}
	}
	for _, c := range noShares() {
		expect(t, fmt.Sprint("IsShare ", c), results(impl.IsShare(times(4, 7), c.painters, c.share)), false, true)
	}
}

func TestWorksAndTimes(t *testing.T) {
	for _, c := range []struct{ widths, rates, share, works, times []int }{
		{[]int{1}, []int{1}, []int{1}, []int{1}, []int{1}},
		{[]int{100}, []int{20}, []int{1}, []int{100}, []int{2000}},
		{[]int{5}, []int{2, 3}, []int{0, 1}, []int{0, 5}, []int{0, 15}},
		{[]int{5}, []int{2, 3}, []int{1, 0}, []int{5, 0}, []int{10, 0}},
		{[]int{5}, []int{2, 3, 4, 5, 6}, []int{0, 0, 0, 1, 0}, []int{0, 0, 0, 5, 0}, []int{0, 0, 0, 25, 0}},
		{[]int{1, 2, 4, 8}, []int{3, 1, 2}, []int{1, 0, 3}, []int{1, 0, 14}, []int{3, 0, 28}},
		{[]int{1, 2, 4, 8}, []int{3, 1, 2}, []int{2, 1, 1}, []int{3, 4, 8}, []int{9, 4, 16}},
		{times(12, 100), []int{20}, []int{12}, []int{1200}, []int{24000}},
		{times(12, 100), times(5, 20), []int{0, 0, 0, 0, 12}, []int{0, 0, 0, 0, 1200}, []int{0, 0, 0, 0, 24000}},
		{times(12, 1), []int{1, 2, 3, 4, 5}, []int{3, 3, 2, 2, 2}, []int{3, 3, 2, 2, 2}, []int{3, 6, 6, 8, 10}},
	} {
		name := fmt.Sprint(" ", c)
		expect(t, "WorkOf"+name, results(impl.WorkOf(c.widths, len(c.rates), c.share)), c.works, true)
		expect(t, "TimesOf"+name, results(impl.TimesOf(c.widths, c.rates, c.share)), c.times, true)
	}
}

func TestAlikeShares(t *testing.T) {
	for _, c := range []struct {
		widths   []int
		painters int
		least    int
		first    []int
		count    int
	}{
		{[]int{5}, 1, 5, []int{1}, 1}, {[]int{5}, 2, 5, []int{0, 1}, 2}, {[]int{1}, 5, 1, []int{0, 0, 0, 0, 1}, 5},
		{[]int{100}, 5, 100, []int{0, 0, 0, 0, 1}, 5}, {[]int{1, 1}, 2, 1, []int{1, 1}, 1}, {[]int{1, 1}, 3, 1, []int{0, 1, 1}, 3},
		{[]int{1, 1, 1}, 2, 2, []int{1, 2}, 2}, {[]int{3, 1, 1}, 2, 3, []int{1, 2}, 1}, {[]int{1, 1, 3}, 2, 3, []int{2, 1}, 1},
		{[]int{100, 1}, 2, 100, []int{1, 1}, 1}, {[]int{9, 1, 1, 1}, 4, 9, []int{0, 0, 1, 3}, 15}, {times(12, 100), 1, 1200, []int{12}, 1},
		{times(12, 100), 4, 300, []int{3, 3, 3, 3}, 1}, {times(12, 100), 5, 300, []int{0, 3, 3, 3, 3}, 35},
		{times(12, 1), 5, 3, []int{0, 3, 3, 3, 3}, 35}, {times(5, 1), 5, 1, times(5, 1), 1}, {times(4, 1), 5, 1, []int{0, 1, 1, 1, 1}, 5},
	} {
		name := fmt.Sprint(" ", c)
		expect(t, "LeastWork"+name, results(impl.LeastWork(c.widths, c.painters)), c.least, true)
		expect(t, "FirstShare"+name, results(impl.FirstShare(c.widths, c.painters)), c.first, true)
		expect(t, "CountShares"+name, results(impl.CountShares(c.widths, c.painters)), c.count, true)
	}
}

func TestGreedy(t *testing.T) {
	for _, c := range []struct {
		widths []int
		most   int
		share  []int
	}{
		{[]int{1}, 1, []int{1}}, {[]int{1}, impl.MaxTime, []int{1}}, {[]int{100}, 100, []int{1}}, {[]int{1, 1, 1}, 1, []int{1, 1, 1}},
		{[]int{3, 5, 2, 4}, 14, []int{4}}, {[]int{3, 5, 2, 4}, 13, []int{3, 1}}, {[]int{3, 5, 2, 4}, 8, []int{2, 2}}, {[]int{3, 5, 2, 4}, 7, []int{1, 2, 1}},
		{[]int{1, 5, 1, 5, 1}, 6, []int{2, 2, 1}}, {[]int{5, 1, 1, 5, 1, 1}, 6, []int{2, 2, 2}}, {[]int{5, 1, 1, 5, 1, 1}, 7, []int{3, 3}},
		// There may be more painters than MaxPainters.
		{times(12, 1), 1, times(12, 1)}, {times(12, 100), 100, times(12, 1)}, {times(12, 100), 199, times(12, 1)}, {times(12, 100), 200, times(6, 2)},
		{times(12, 100), 1199, []int{11, 1}}, {times(12, 100), 1200, []int{12}}, {times(12, 100), impl.MaxTime, []int{12}}, {times(6, 2), 3, times(6, 1)},
	} {
		name := fmt.Sprint(" ", c)
		expect(t, "GreedyShare"+name, results(impl.GreedyShare(c.widths, c.most)), c.share, true)
		expect(t, "FewestPainters"+name, results(impl.FewestPainters(c.widths, c.most)), len(c.share), true)
	}
	// One less than the widest board is not enough, wherever it is.
	for _, widths := range [][]int{{2}, {100}, {3, 5, 2, 4}, {5, 1, 1}, {1, 1, 5}, times(12, 100), append(times(11, 1), 2), append([]int{50}, times(11, 1)...)} {
		most := slices.Max(widths) - 1
		expectZero(t, fmt.Sprint("GreedyShare ", widths), results(impl.GreedyShare(widths, most)))
		expectZero(t, fmt.Sprint("FewestPainters ", widths), results(impl.FewestPainters(widths, most)))
		if _, ok := impl.GreedyShare(widths, most+1); !ok {
			t.Error("the width of the widest board is enough", widths)
		}
	}
}

func TestRated(t *testing.T) {
	for _, c := range []struct {
		widths []int
		rates  []int
		least  int
		first  []int
	}{
		{[]int{1}, []int{1}, 1, []int{1}}, {[]int{5}, []int{20}, 100, []int{1}}, {[]int{5}, []int{20, 1}, 5, []int{0, 1}},
		{[]int{5}, []int{1, 20}, 5, []int{1, 0}}, {[]int{5}, []int{2, 2}, 10, []int{0, 1}}, {[]int{1}, times(5, 20), 20, []int{0, 0, 0, 0, 1}},
		{[]int{1}, []int{20, 20, 1, 20, 20}, 1, []int{0, 0, 1, 0, 0}}, {[]int{1}, []int{20, 1, 1, 1, 20}, 1, []int{0, 0, 0, 1, 0}},
		{[]int{3, 5, 2, 4}, []int{3, 1}, 11, []int{1, 3}}, {times(12, 100), []int{20}, 24000, []int{12}},
		{times(12, 100), times(5, 20), 6000, []int{0, 3, 3, 3, 3}}, {times(12, 100), []int{1, 20}, 1200, []int{12, 0}},
		{times(12, 100), []int{20, 1}, 1200, []int{0, 12}}, {times(12, 100), []int{1, 20, 1, 20, 1}, 400, []int{4, 0, 4, 0, 4}},
		{times(12, 100), []int{2, 1}, 800, []int{4, 8}}, {times(3, 1), []int{1, 1}, 2, []int{1, 2}}, {times(4, 3), []int{1, 2}, 9, []int{3, 1}},
	} {
		name := fmt.Sprint(" ", c)
		expect(t, "LeastTime"+name, results(impl.LeastTime(c.widths, c.rates)), c.least, true)
		expect(t, "FirstRated"+name, results(impl.FirstRated(c.widths, c.rates)), c.first, true)
	}
}

func TestBestOrder(t *testing.T) {
	for _, c := range []struct {
		widths []int
		rates  []int
		order  []int
		least  int
	}{
		{[]int{1}, []int{1}, []int{0}, 1}, {[]int{100}, []int{20}, []int{0}, 2000}, {[]int{5}, []int{2, 2}, []int{0, 1}, 10},
		{[]int{5}, []int{3, 2, 1}, []int{0, 1, 2}, 5}, {[]int{1, 10}, []int{10, 1}, []int{0, 1}, 10}, {[]int{10, 1}, []int{10, 1}, []int{1, 0}, 10},
		{[]int{10, 1, 10}, []int{1, 10, 1}, []int{0, 1, 2}, 10}, {[]int{10, 10, 1}, []int{10, 1, 1}, []int{1, 2, 0}, 10},
		{[]int{1, 10, 10}, []int{1, 1, 10}, []int{2, 0, 1}, 10}, {times(12, 100), times(5, 20), []int{0, 1, 2, 3, 4}, 6000},
		{times(12, 100), []int{20}, []int{0}, 24000}, {times(12, 100), []int{20, 1, 20, 1, 20}, []int{0, 1, 2, 3, 4}, 600},
		{[]int{20, 15, 12, 30, 60}, []int{5, 4, 3, 2, 1}, []int{2, 1, 0, 3, 4}, 60},
	} {
		expect(t, fmt.Sprint("BestOrder ", c), results(impl.BestOrder(c.widths, c.rates)), c.order, c.least, true)
	}
}

func TestMeet(t *testing.T) {
	for _, c := range []struct {
		widths      []int
		left, right int
		time, of    int
		place, by   int
	}{
		{[]int{1}, 1, 1, 1, 2, 1, 2}, {[]int{2}, 1, 1, 1, 1, 1, 1}, {[]int{1}, 20, 20, 10, 1, 1, 2}, {[]int{1}, 1, 20, 20, 21, 20, 21},
		{[]int{1}, 20, 1, 20, 21, 1, 21}, {[]int{7}, 3, 4, 12, 1, 4, 1}, {[]int{3, 4}, 4, 3, 12, 1, 3, 1}, {[]int{3, 5, 2, 4}, 3, 1, 21, 2, 7, 2},
		{times(12, 100), 20, 20, 12000, 1, 600, 1}, {times(12, 100), 20, 19, 152000, 13, 7600, 13}, {times(12, 100), 1, 1, 600, 1, 600, 1},
		{[]int{100}, 6, 9, 360, 1, 60, 1}, {times(12, 1), 2, 4, 16, 1, 8, 1},
	} {
		name := fmt.Sprint(" ", c)
		expect(t, "MeetTime"+name, results(impl.MeetTime(c.widths, c.left, c.right)), c.time, c.of, true)
		expect(t, "MeetPlace"+name, results(impl.MeetPlace(c.widths, c.left, c.right)), c.place, c.by, true)
	}
}

func TestTogether(t *testing.T) {
	for _, c := range []struct {
		widths   []int
		rates    []int
		time, of int
		parts    [][2]int
	}{
		{[]int{1}, []int{1}, 1, 1, [][2]int{{1, 1}}}, {[]int{5}, []int{20}, 100, 1, [][2]int{{1, 1}}},
		{[]int{1}, times(5, 1), 1, 5, slices.Repeat([][2]int{{1, 5}}, 5)}, {times(12, 100), times(5, 20), 4800, 1, slices.Repeat([][2]int{{1, 5}}, 5)},
		{[]int{6}, []int{1, 2, 3}, 36, 11, [][2]int{{6, 11}, {3, 11}, {2, 11}}}, {[]int{5, 6}, []int{3, 2, 1}, 6, 1, [][2]int{{2, 11}, {3, 11}, {6, 11}}},
		{times(12, 100), []int{20}, 24000, 1, [][2]int{{1, 1}}}, {[]int{3}, []int{2, 2}, 3, 1, [][2]int{{1, 2}, {1, 2}}},
		{[]int{1}, []int{20, 20, 10}, 5, 1, [][2]int{{1, 4}, {1, 4}, {1, 2}}}, {[]int{1}, []int{1, 20}, 20, 21, [][2]int{{20, 21}, {1, 21}}},
	} {
		name := fmt.Sprint(" ", c)
		expect(t, "TogetherTime"+name, results(impl.TogetherTime(c.widths, c.rates)), c.time, c.of, true)
		for k, part := range c.parts {
			expect(t, "PartOfPainter"+name, results(impl.PartOfPainter(c.widths, c.rates, k)), part[0], part[1], true)
		}
	}
}

func TestWidestBoards(t *testing.T) {
	for _, c := range []struct{ widths, widest []int }{
		{[]int{1}, []int{0}}, {[]int{100}, []int{0}}, {[]int{1, 2}, []int{1}}, {[]int{2, 1}, []int{0}}, {[]int{4, 4}, []int{0, 1}},
		{[]int{100, 99, 100}, []int{0, 2}}, {[]int{1, 7, 3, 7, 7, 2}, []int{1, 3, 4}}, {times(12, 1), []int{0, 1, 2, 3, 4, 5, 6, 7, 8, 9, 10, 11}},
		{append(times(11, 99), 100), []int{11}},
	} {
		expect(t, fmt.Sprint("WidestBoards ", c), results(impl.WidestBoards(c.widths)), c.widest, true)
	}
}

func TestWidthsTexts(t *testing.T) {
	for _, c := range []struct {
		widths []int
		text   string
	}{
		{[]int{1}, "1"}, {[]int{9}, "9"}, {[]int{10}, "10"}, {[]int{100}, "100"}, {[]int{1, 100}, "1-100"}, {[]int{20, 3, 1}, "20-3-1"},
		{times(12, 100), strings.Repeat("100-", 11) + "100"}, {times(12, 1), "1-1-1-1-1-1-1-1-1-1-1-1"},
	} {
		expect(t, "WidthsText "+c.text, results(impl.WidthsText(c.widths)), c.text, true)
		expect(t, "ParseWidths "+c.text, results(impl.ParseWidths(c.text)), c.widths, true)
	}
	for _, widths := range noWidths() {
		expectZero(t, fmt.Sprint("WidthsText ", widths), results(impl.WidthsText(widths)))
	}
	for _, text := range noWidthsTexts() {
		expectZero(t, "ParseWidths "+text, results(impl.ParseWidths(text)))
	}
}

// TestShareSumsWrap has shares whose sums are the boards only because they wrap around.
func TestShareSumsWrap(t *testing.T) {
	for _, share := range [][]int{
		{math.MaxInt, math.MaxInt, 6}, {math.MinInt, math.MinInt, 4}, {math.MinInt, 4, math.MinInt}, {4, math.MinInt, math.MinInt},
		{math.MaxInt, 1, math.MinInt + 4}, {1 << 62, 1 << 62, 1 << 62, 1 << 62, 4}, {-1 << 62, -1 << 62, -1 << 62, -1 << 62, 4},
	} {
		widths := times(4, 1)
		expect(t, "IsShare", results(impl.IsShare(widths, len(share), share)), false, true)
		expectZero(t, "WorkOf", results(impl.WorkOf(widths, len(share), share)))
		expectZero(t, "TimesOf", results(impl.TimesOf(widths, times(len(share), 1), share)))
	}
}
