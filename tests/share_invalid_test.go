package tests

import (
	"fmt"
	"math"
	"math/rand"
	"slices"
	"strconv"
	"strings"
	"testing"

	"loop.example/g01373/impl"
)

// Promise 11 for chapter 3.

// noNumbers returns lists that are not 1..long numbers in 1..most, with one thing wrong each.
func noNumbers(long int, most int) [][]int {
	lists := [][]int{nil, {}, times(long+1, 1), times(long+1, most), times(5000, 1)}
	for _, wrong := range []int{math.MinInt, math.MinInt + 1, -1 << 32, -most, -1, 0, most + 1, 1000, 1<<32 + 1, math.MaxInt - 1, math.MaxInt} {
		lists = append(lists, []int{wrong}, []int{wrong, 1, 1}, []int{1, wrong, most}, []int{most, 1, wrong}, append(times(long-1, 1), wrong), times(long, wrong))
	}
	return lists
}

func noWidths() [][]int {
	return noNumbers(impl.MaxShared, impl.MaxWidth)
}

func noRates() [][]int {
	return noNumbers(impl.MaxPainters, impl.MaxRate)
}

// noPainters are numbers that are none of painters.
func noPainters() []int {
	return append(farNumbers(), 0, 6)
}

// paintersShare is a list for so many painters.
type paintersShare struct {
	painters int
	share    []int
}

// noShares are lists that are no shares of 4 boards.
func noShares() []paintersShare {
	shares := []paintersShare{
		{1, nil}, {1, []int{}}, {2, nil}, {5, nil}, {2, []int{4}}, {1, []int{4, 0}}, {1, []int{0, 4}}, {3, []int{2, 2}}, {5, []int{1, 1, 1, 1}},
		{5, []int{1, 1, 1, 1, 0, 0}}, {1, []int{3}}, {1, []int{5}}, {1, []int{0}}, {2, []int{2, 3}}, {2, []int{2, 1}}, {2, []int{0, 0}}, {2, []int{4, 4}},
		{2, []int{-1, 5}}, {2, []int{5, -1}}, {3, []int{2, -1, 3}}, {3, []int{-4, 4, 4}}, {5, []int{0, 0, 5, 0, -1}}, {1, []int{-4}}, {2, []int{-2, -2}},
		{1, make([]int, 5000)}, {5, make([]int, 5000)}, {5, make([]int, 5)},
	}
	for _, far := range farNumbers() {
		shares = append(shares, paintersShare{1, []int{far}}, paintersShare{2, []int{far, 4 - far}}, paintersShare{2, []int{4 - far, far}},
			paintersShare{3, []int{4, 0, far}}, paintersShare{3, []int{far, 0, 4}})
	}
	return shares
}

// noNumbersTexts are no texts of 1..long numbers in 1..most with - between them.
func noNumbersTexts(long int, most int) []string {
	over, ones := strconv.Itoa(most+1), strings.Repeat("1-", long-1)
	return []string{
		"", "-", "--", " ", "0", over, "1000", "00", "01", "001", "+1", "-1", "1-", "-1-2", "1--2", "1-2-", "1---2", "1-0", "0-1", "1-" + over, over + "-1", "1-01",
		"1-+2", "1 - 2", "1- 2", "1 -2", "1,2", "1;2", "1.2", "1/2", "1 2", " 1", "1 ", "1\n", "\n1", "1\t", "1\x00", "\x00", "a", "1a", "a-1", "1-a", "0x1",
		"1_0", "1e1", "1.0", "٣", "１", "1–2", "\xff", "1-\xff", "99999999999999999999", "18446744073709551617", "4294967297", "1-18446744073709551617",
		"-9223372036854775808", "9223372036854775807", ones + "1-1", ones + "1-", ones + "1--1", ones, ones + "0", ones + over, strings.Repeat("1-", 10000) + "1",
		strings.Repeat("1", 10000), strings.Repeat("0", 10000) + "1", strings.Repeat("-", 10000), "3-5-2-4 ", "3-5-2-4-", "-3-5-2-4",
	}
}

func noWidthsTexts() []string {
	return noNumbersTexts(impl.MaxShared, impl.MaxWidth)
}

// widthCalls are all functions of widths alone.
func widthCalls(widths []int) map[string][]any {
	return map[string][]any{
		"WidestBoards": results(impl.WidestBoards(widths)),
		"WidthsText":   results(impl.WidthsText(widths)),
	}
}

// painterCalls are all functions of widths and painters.
func painterCalls(widths []int, painters int) map[string][]any {
	return map[string][]any{
		"LeastWork":   results(impl.LeastWork(widths, painters)),
		"FirstShare":  results(impl.FirstShare(widths, painters)),
		"CountShares": results(impl.CountShares(widths, painters)),
	}
}

func mostCalls(widths []int, most int) map[string][]any {
	return map[string][]any{
		"FewestPainters": results(impl.FewestPainters(widths, most)),
		"GreedyShare":    results(impl.GreedyShare(widths, most)),
	}
}

// rateCalls are all functions of widths and rates.
func rateCalls(widths []int, rates []int) map[string][]any {
	return map[string][]any{
		"LeastTime":     results(impl.LeastTime(widths, rates)),
		"FirstRated":    results(impl.FirstRated(widths, rates)),
		"BestOrder":     results(impl.BestOrder(widths, rates)),
		"TogetherTime":  results(impl.TogetherTime(widths, rates)),
		"PartOfPainter": results(impl.PartOfPainter(widths, rates, 0)),
	}
}

func meetCalls(widths []int, left int, right int) map[string][]any {
	return map[string][]any{
		"MeetTime":  results(impl.MeetTime(widths, left, right)),
		"MeetPlace": results(impl.MeetPlace(widths, left, right)),
	}
}

func TestInvalidWidths(t *testing.T) {
	for _, widths := range noWidths() {
		name := fmt.Sprint(widths[:min(len(widths), 20)])
		expectAllZero(t, name, widthCalls(widths))
		for _, painters := range []int{1, 3, 5, 0} {
			expectAllZero(t, name, painterCalls(widths, painters))
		}
		for _, most := range []int{1, 100, impl.MaxTime, 0} {
			expectAllZero(t, name, mostCalls(widths, most))
		}
		for _, rates := range [][]int{{1}, {20}, {1, 3}, times(5, 20), nil} {
			expectAllZero(t, name, rateCalls(widths, rates))
			share := make([]int, len(rates))
			if len(rates) > 0 {
				share[0] = len(widths)
			}
			expectZero(t, "TimesOf "+name, results(impl.TimesOf(widths, rates, share)))
			expectZero(t, "WorkOf "+name, results(impl.WorkOf(widths, len(rates), share)))
			expectZero(t, "IsShare "+name, results(impl.IsShare(widths, len(rates), share)))
		}
		expectAllZero(t, name, meetCalls(widths, 1, 20))
	}
}

func TestInvalidPainters(t *testing.T) {
	for _, widths := range [][]int{{1}, {3, 5, 2, 4}, times(12, 100)} {
		for _, painters := range noPainters() {
			name := fmt.Sprint(widths, painters)
			expectAllZero(t, name, painterCalls(widths, painters))
			share := make([]int, min(max(painters, 0), 2000))
			for range 2 {
				expectZero(t, "IsShare "+name, results(impl.IsShare(widths, painters, share)))
				expectZero(t, "WorkOf "+name, results(impl.WorkOf(widths, painters, share)))
				share = append(share, len(widths))
			}
		}
		share := append(times(5, 0), len(widths))
		expectZero(t, "IsShare", results(impl.IsShare(widths, 6, share)))
		expectZero(t, "WorkOf", results(impl.WorkOf(widths, 6, share)))
	}
}

func TestInvalidRates(t *testing.T) {
	for _, widths := range [][]int{{1}, {3, 5, 2, 4}, times(12, 100)} {
		for _, rates := range noRates() {
			name := fmt.Sprint(widths, rates[:min(len(rates), 20)])
			expectAllZero(t, name, rateCalls(widths, rates))
			share := make([]int, len(rates))
			if len(rates) > 0 {
				share[0] = len(widths)
			}
			expectZero(t, "TimesOf "+name, results(impl.TimesOf(widths, rates, share)))
		}
		for _, rate := range append(farNumbers(), 0, 21) {
			name := fmt.Sprint(widths, rate)
			for _, fine := range []int{1, 20, rate} {
				expectAllZero(t, name, meetCalls(widths, rate, fine))
				expectAllZero(t, name, meetCalls(widths, fine, rate))
			}
		}
		for _, rates := range [][]int{{1}, {20, 1}, times(5, 3)} {
			for _, k := range append(farNumbers(), len(rates), len(rates)+1) {
				expectZero(t, "PartOfPainter", results(impl.PartOfPainter(widths, rates, k)))
			}
		}
	}
}

func TestInvalidMost(t *testing.T) {
	for _, widths := range [][]int{{1}, {3, 5, 2, 4}, times(12, 1), times(12, 100)} {
		for _, most := range []int{math.MinInt, math.MinInt + 1, -1 << 32, -100, -1, 0, impl.MaxTime + 1, 100000, 1<<32 + 100, math.MaxInt - 1, math.MaxInt} {
			expectAllZero(t, fmt.Sprint(widths, most), mostCalls(widths, most))
		}
	}
}

func TestInvalidShares(t *testing.T) {
	widths := []int{3, 5, 2, 4}
	for _, c := range noShares() {
		name := fmt.Sprint(c.painters, c.share[:min(len(c.share), 20)])
		expectZero(t, "WorkOf "+name, results(impl.WorkOf(widths, c.painters, c.share)))
		expectZero(t, "TimesOf "+name, results(impl.TimesOf(widths, times(c.painters, 2), c.share)))
	}
}

// allShareCalls are all functions with a list as an argument.
func allShareCalls(widths []int, rates []int, share []int) []map[string][]any {
	return []map[string][]any{
		widthCalls(widths), painterCalls(widths, len(rates)), mostCalls(widths, 100), rateCalls(widths, rates), meetCalls(widths, 3, 4), {
			"AreWidths": results(impl.AreWidths(widths)),
			"AreRates":  results(impl.AreRates(rates)),
			"IsShare":   results(impl.IsShare(widths, len(rates), share)),
			"WorkOf":    results(impl.WorkOf(widths, len(rates), share)),
			"TimesOf":   results(impl.TimesOf(widths, rates, share)),
		},
	}
}

// TestShareArgumentsStay looks at the elements of lists, and at what is behind them.
func TestShareArgumentsStay(t *testing.T) {
	r := rand.New(rand.NewSource(34))
	for range 300 {
		boards, painters := r.Intn(15), r.Intn(8)
		widths, rates, share := make([]int, 20), make([]int, 20), make([]int, 20)
		for i := range 20 {
			widths[i], rates[i] = 1+r.Intn(100), 1+r.Intn(20)
		}
		for range boards {
			share[r.Intn(max(painters, 1))]++
		}
		share[painters] = 1
		before := slices.Concat(widths, rates, share)
		got := allShareCalls(widths[:boards], rates[:painters], share[:painters])
		if !slices.Equal(slices.Concat(widths, rates, share), before) {
			t.Fatal("an argument is changed")
		}
		bare := func(list []int) []int { return slices.Clip(slices.Clone(list)) }
		want := allShareCalls(bare(widths[:boards]), bare(rates[:painters]), bare(share[:painters]))
		for i, calls := range got {
			for name, call := range calls {
				expect(t, name, call, want[i][name]...)
			}
		}
	}
}

// TestShareResultsAreNew spoils the results of a call: neither its arguments nor the next call's results may show it.
func TestShareResultsAreNew(t *testing.T) {
	widths, rates, share := []int{3, 5, 2, 4}, []int{2, 1, 2}, []int{1, 0, 3}
	again := func() []map[string][]any {
		return append(allShareCalls(widths, rates, share), map[string][]any{"ParseWidths": results(impl.ParseWidths("3-5-2-4"))})
	}
	expectNew(t, [][]int{widths, rates, share}, again)
}

// TestAnyShareArguments calls all functions with whatever comes: they return, with zero values where they fail.
func TestAnyShareArguments(t *testing.T) {
	r := rand.New(rand.NewSource(35))
	numbers := append(farNumbers(), 0, 1, 2, 3, 4, 5, 6, 12, 13, 20, 21, 100, 101, impl.MaxTime, impl.MaxTime+1)
	texts := append(noWidthsTexts(), "1", "100", "3-5-2-4")
	number := func() int { return numbers[r.Intn(len(numbers))] }
	list := func(long int, most int) []int { return anyList(r, long, most, numbers) }
	for range 3000 {
		widths, rates, share := list(12, 100), list(5, 20), list(5, 3)
		calls := append(allShareCalls(widths, rates, share), painterCalls(widths, number()), mostCalls(widths, number()), meetCalls(widths, number(), number()),
			map[string][]any{
				"IsShare":       results(impl.IsShare(widths, number(), share)),
				"WorkOf":        results(impl.WorkOf(widths, number(), share)),
				"PartOfPainter": results(impl.PartOfPainter(widths, rates, number())),
				"ParseWidths":   results(impl.ParseWidths(texts[r.Intn(len(texts))])),
			})
		expectZeroIfFailed(t, calls)
	}
}
