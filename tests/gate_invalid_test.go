package tests

import (
	"fmt"
	"math"
	"math/rand"
	"slices"
	"strings"
	"testing"
	"testing/synctest"

	"loop.example/g01373/impl"
)

// Promise 11 for chapter 7.

// noRows are numbers of boards that no fence has.
func noRows() []int {
	return append(farNumbers(), -2, 0, 1, impl.MaxRow+1)
}

// noManys are no numbers of gates.
func noManys() []int {
	return append(farNumbers(), impl.MaxGates+1)
}

// noMosts are no lengths that a longest part may have.
func noMosts() []int {
	return append(farNumbers(), 0, impl.MaxRow+1)
}

// noGates are lists that are no gates of so many boards.
func noGates(boards int) [][]int {
	lists := [][]int{
		{0}, {boards}, {boards + 1}, {-1}, {-boards}, {0, 1}, {-1, 1}, {1, boards}, {boards - 1, boards}, {0, boards - 1}, {0, boards}, {boards - 1, boards - 1},
		// Ones that go back, or stay.
		{1, 1}, {2, 1}, {boards - 1, 1}, {1, 2, 2}, {1, 1, 2}, {1, 3, 2}, {2, 1, 3}, {1, 2, 1}, {3, 2, 1}, {1, 0}, {boards, 1},
		stairs(impl.MaxGates+1, 1, 1), stairs(impl.MaxGates+1, 1, 3), stairs(impl.MaxGates+1, boards-impl.MaxGates-1, 1), stairs(impl.MaxGates, boards-impl.MaxGates+1, 1), stairs(impl.MaxGates, 0, 1), times(impl.MaxGates, 1), stairs(boards+1, 0, 1), make([]int, 5000), stairs(5000, 1, 1),
	}
	for _, far := range farNumbers() {
		lists = append(lists, []int{far}, []int{far, 1}, []int{1, far}, []int{1, far, boards - 1}, []int{far, far}, append(stairs(impl.MaxGates-1, 1, 1), far))
	}
	return append(lists, []int{math.MinInt, math.MaxInt}, []int{math.MaxInt, math.MinInt}, []int{1<<32 + 1}, []int{1, 1<<32 + 2}, []int{1 - 1<<32})
}

// noParts are lists that are no parts.
func noParts() [][]int {
	lists := append(noNumbers(impl.MaxGates+1, impl.MaxRow), []int{1}, []int{41}, []int{1, 40}, []int{40, 1}, []int{20, 21}, []int{39, 1, 1}, append(times(10, 3), 11), times(11, 4), append(times(10, 4), 1), times(12, 1), times(12, 3), times(40, 1))
	return append(lists, []int{math.MaxInt, math.MaxInt, 4}, []int{1 << 62, 1 << 62, 1 << 62, 1 << 62, 9}, []int{math.MinInt, math.MinInt, 9}, []int{-1, 10}, []int{10, -1}, []int{0, 9}, []int{9, 0}, []int{4, 0, 5}, []int{math.MaxInt, math.MinInt, 10})
}

// noTrips are lists that are no trips along so many boards.
func noTrips(boards int) [][]int {
	trips := [][]int{nil, {}, {0}, {boards - 1}, {0, 0, 0}, {0, 1, 1}, {0, boards}, {boards, 0}, {boards, boards}, {-1, 0}, {0, -1}, {-1, -1}, {0, boards + 1}, {-1, boards}, make([]int, 5000)}
	for _, far := range farNumbers() {
		trips = append(trips, []int{far, 0}, []int{0, far}, []int{far, far}, []int{far}, []int{0, 0, far})
	}
	return append(trips, []int{math.MinInt, math.MaxInt}, []int{math.MaxInt, math.MinInt}, []int{1 << 32, 0}, []int{0, 1<<32 + 1})
}

// noGatesTexts are those of other numbers, with what is between them as it is and as gates have it.
func noGatesTexts() []string {
	var texts []string
	for _, text := range noNumbersTexts(impl.MaxGates, impl.MaxRow-1) {
		// Without a number it is the text of no gate.
		if text != "" {
			texts = append(texts, text, strings.ReplaceAll(text, "-", "|"))
		}
	}
	return append(texts,
		"40", "0", "1|40", "0|1", "3|3", "5|3", "3|5|5", "3|5|4", "3||5", "|3", "3|", "|", "||", "3-5", "3,5", "3 5", "3| 5", "3 |5", " 3|5", "3|5 ", "3|05", "03|5", "3|+5", "+3|5", "3|-5", "-3", "3|5\n", "3|5|", "|3|5", "3¦5", "3｜5", "3||", "3|5|x", "x",
		"1|2|3|4|5|6|7|8|9|10|11", "29|30|31|32|33|34|35|36|37|38|39", "1|2|3|4|5|6|7|8|9|10|", "1|2|3|4|5|6|7|8|9|9", "1|2|3|4|5|6|7|8|9|40", "1|18446744073709551618", strings.Repeat("1|", 10000)+"1", strings.Repeat("|", 10000),
	)
}

// rowCalls are all functions of boards and gates alone.
func rowCalls(boards int, gates []int) map[string][]any {
	return map[string][]any{
		"PartsOf":      results(impl.PartsOf(boards, gates)),
		"LongestPart":  results(impl.LongestPart(boards, gates)),
		"ShortestPart": results(impl.ShortestPart(boards, gates)),
		"IsEven":       results(impl.IsEven(boards, gates)),
		"RankOfGates":  results(impl.RankOfGates(boards, gates)),
		"FarthestWalk": results(impl.FarthestWalk(boards, gates)),
		"MirrorGates":  results(impl.MirrorGates(boards, gates)),
	}
}

// placeCalls are all functions of boards, gates, and boards or a gate.
func placeCalls(boards int, gates []int, a int, b int) map[string][]any {
	return map[string][]any{
		"NearestGate": results(impl.NearestGate(boards, gates, a)),
		"WalkAcross":  results(impl.WalkAcross(boards, gates, a, b)),
		"PutGate":     results(impl.PutGate(boards, gates, a)),
		"TakeGate":    results(impl.TakeGate(boards, gates, a)),
	}
}

// manyCalls are all functions of boards and a number of gates.
func manyCalls(boards int, many int, number int) map[string][]any {
	return map[string][]any{
		"EvenGates":        results(impl.EvenGates(boards, many)),
		"CountGateWays":    results(impl.CountGateWays(boards, many)),
		"CountWithLongest": results(impl.CountWithLongest(boards, many, number)),
		"GatesOfRank":      results(impl.GatesOfRank(boards, many, number)),
	}
}

// allGateCalls are all functions with a list as an argument.
func allGateCalls(c row, trips [][]int, a int, b int) []map[string][]any {
	return []map[string][]any{
		rowCalls(c.boards, c.gates), placeCalls(c.boards, c.gates, a, b), {
			"AreGates":     results(impl.AreGates(c.boards, c.gates)),
			"GatesOfParts": results(impl.GatesOfParts(c.gates)),
			"BestGate":     results(impl.BestGate(c.boards, trips)),
			"GatesText":    results(impl.GatesText(c.gates)),
		},
	}
}

func TestInvalidRows(t *testing.T) {
	for _, boards := range noRows() {
		name := fmt.Sprint(boards)
		for _, gates := range [][]int{nil, {1}, {1, 2}, {boards - 1}, mostGates} {
			expectAllZero(t, name, rowCalls(boards, gates))
			for _, number := range []int{0, 1, 2, boards - 1, boards} {
				expectAllZero(t, name, placeCalls(boards, gates, number, 0))
				expectAllZero(t, name, placeCalls(boards, gates, number, number))
			}
		}
		for many := range impl.MaxGates + 1 {
			for _, number := range []int{0, 1, 2, impl.MaxRow, boards} {
				expectAllZero(t, name, manyCalls(boards, many, number))
			}
		}
		for _, most := range []int{1, 2, impl.MaxRow, boards} {
			expectZero(t, "FewestGates "+name, results(impl.FewestGates(boards, most)))
		}
		for _, trips := range [][][]int{{{0, 0}}, {{0, 1}}, {{boards - 1, 0}}, {{boards, boards}}, nil} {
			expectZero(t, "BestGate "+name, results(impl.BestGate(boards, trips)))
		}
	}
}

func TestInvalidGates(t *testing.T) {
	for _, boards := range []int{2, 3, 9, 11, 12, impl.MaxRow} {
		for _, gates := range noGates(boards) {
			name := fmt.Sprint(boards, gates[:min(len(gates), 20)])
			expectAllZero(t, name, rowCalls(boards, gates))
			for _, number := range []int{0, 1, 2, boards - 1, boards, -1} {
				expectAllZero(t, name, placeCalls(boards, gates, number, 0))
				expectAllZero(t, name, placeCalls(boards, gates, number, boards-1))
			}
			if len(gates) > 0 && len(gates) < 20 {
				expectAllZero(t, name, placeCalls(boards, gates, gates[0], 1))
				expectAllZero(t, name, placeCalls(boards, gates, gates[len(gates)-1], 1))
			}
		}
	}
}

func TestInvalidParts(t *testing.T) {
	for _, parts := range noParts() {
		expectZero(t, fmt.Sprint("GatesOfParts ", parts[:min(len(parts), 20)]), results(impl.GatesOfParts(parts)))
	}
}

func TestInvalidGateNumbers(t *testing.T) {
	for _, boards := range []int{2, 3, 9, 11, impl.MaxRow} {
		for _, many := range noManys() {
			for _, number := range []int{0, 1, 2, impl.MaxRow, many} {
				expectAllZero(t, fmt.Sprint(boards, many, number), manyCalls(boards, many, number))
			}
		}
		for _, most := range noMosts() {
			for many := range impl.MaxGates + 1 {
				expectZero(t, fmt.Sprint("CountWithLongest ", boards, many, most), results(impl.CountWithLongest(boards, many, most)))
			}
			expectZero(t, fmt.Sprint("FewestGates ", boards, most), results(impl.FewestGates(boards, most)))
		}
		for _, rank := range []int{math.MinInt, math.MinInt + 1, -1 << 32, -1000, -1, 635745396, 1 << 32, math.MaxInt - 1, math.MaxInt} {
			for many := range impl.MaxGates + 1 {
				expectZero(t, fmt.Sprint("GatesOfRank ", boards, many, rank), results(impl.GatesOfRank(boards, many, rank)))
			}
		}
	}
}

func TestInvalidWalkers(t *testing.T) {
	for _, c := range []row{{2, nil}, {2, []int{1}}, {9, exampleGates()}, {9, nil}, {40, mostGates}, {40, []int{39}}} {
		for _, far := range append(farNumbers(), c.boards, c.boards+1) {
			name := fmt.Sprint(c, far)
			expectZero(t, "NearestGate "+name, results(impl.NearestGate(c.boards, c.gates, far)))
			for _, fine := range []int{0, 1, c.boards - 1, far} {
				expectZero(t, "WalkAcross "+name, results(impl.WalkAcross(c.boards, c.gates, far, fine)))
				expectZero(t, "WalkAcross "+name, results(impl.WalkAcross(c.boards, c.gates, fine, far)))
			}
		}
	}
}

func TestInvalidTrips(t *testing.T) {
	for _, boards := range []int{2, 3, 9, impl.MaxRow} {
		fine := []int{0, boards - 1}
		for _, trips := range [][][]int{nil, {}, slices.Repeat([][]int{fine}, impl.MaxTrips+1), slices.Repeat([][]int{fine}, 5000), make([][]int, impl.MaxTrips), make([][]int, 5000)} {
			expectZero(t, fmt.Sprint("BestGate ", boards, len(trips)), results(impl.BestGate(boards, trips)))
		}
		for _, trip := range noTrips(boards) {
			name := fmt.Sprint("BestGate ", boards, trip[:min(len(trip), 10)])
			all := slices.Repeat([][]int{fine}, impl.MaxTrips)
			all[impl.MaxTrips-1] = trip
			for _, trips := range [][][]int{{trip}, {trip, fine}, {fine, trip}, {fine, trip, fine}, all} {
				expectZero(t, name, results(impl.BestGate(boards, trips)))
			}
		}
	}
}

// TestGateArgumentsStay looks at the elements of lists, and at what is behind them.
func TestGateArgumentsStay(t *testing.T) {
	r := rand.New(rand.NewSource(75))
	bare := func(list []int) []int { return slices.Clip(slices.Clone(list)) }
	for range 300 {
		boards := 2 + r.Intn(impl.MaxRow-1)
		many := r.Intn(min(impl.MaxGates, boards-1) + 1)
		room := append(randomGates(r, boards), stairs(13, boards, 1)...)
		many = min(many, slices.Index(room, boards))
		trips := randomTrips(r, boards)
		for i, trip := range trips {
			// Behind each trip there is room, too.
			trips[i] = append(trip, 77)[:2]
		}
		before, told := slices.Clone(room), fmt.Sprint(trips)
		a, b := r.Intn(boards), r.Intn(boards)
		got := allGateCalls(row{boards, room[:many]}, trips[:1+len(trips)/2], a, b)
		if !slices.Equal(room, before) || fmt.Sprint(trips) != told || slices.ContainsFunc(trips, func(trip []int) bool { return trip[:3][2] != 77 }) {
			t.Fatal("an argument is changed")
		}
		var apart [][]int
		for _, trip := range trips[:1+len(trips)/2] {
			apart = append(apart, bare(trip))
		}
		want := allGateCalls(row{boards, bare(room[:many])}, slices.Clip(apart), a, b)
		for i, calls := range got {
			for name, call := range calls {
				expect(t, name, call, want[i][name]...)
			}
		}
	}
}

// TestGateResultsAreNew spoils the results of a call: neither its arguments nor the next call's results may show it.
func TestGateResultsAreNew(t *testing.T) {
	gates, trips := exampleGates(), [][]int{{0, 2}, {6, 6}}
	again := func() []map[string][]any {
		c := row{9, gates}
		return append(append(allGateCalls(c, trips, 4, 8), allGateCalls(c, trips, 5, 0)...), append(allGateCalls(c, trips, 8, 0), manyCalls(9, 2, 14), placeCalls(9, gates, 1, 1), map[string][]any{
			"ParseGates": results(impl.ParseGates("3|5")),
		})...)
	}
	expectNew(t, append(slices.Clone(trips), gates), again)
}

// TestGatesLeaveNobodyWalking fails if a goroutine is left waiting when all calls have returned.
func TestGatesLeaveNobodyWalking(t *testing.T) {
	synctest.Test(t, func(t *testing.T) {
		for _, c := range []row{{2, nil}, {2, []int{1}}, {9, exampleGates()}, {40, mostGates}, {40, lastGates}, {1, nil}, {9, []int{5, 3}}} {
			for _, trips := range [][][]int{{{0, 1}}, {{0, 0}, {1, 1}}, {{1}}, nil} {
				allGateCalls(c, trips, 0, 1)
				allGateCalls(c, trips, 1, 0)
			}
		}
	})
}

// TestGatesAreFree writes gates and trips as soon as a call has returned: by go test -race it fails if somebody still reads them.
func TestGatesAreFree(t *testing.T) {
	gates, trip := make([]int, impl.MaxGates), make([]int, 2)
	for first := 1; first <= impl.MaxRow-impl.MaxGates; first++ {
		copy(gates, stairs(impl.MaxGates, first, 1))
		expect(t, "NearestGate", results(impl.NearestGate(impl.MaxRow, gates, first)), first, 1, true)
		copy(gates, mostGates)
		expect(t, "WalkAcross", results(impl.WalkAcross(impl.MaxRow, gates, 0, first)), 2*first, true)
		trip[0], trip[1] = first, first
		expect(t, "BestGate", results(impl.BestGate(impl.MaxRow, [][]int{trip})), first, 2, true)
	}
}

// TestAnyGateArguments calls all functions with whatever comes: they return, with zero values where they fail.
func TestAnyGateArguments(t *testing.T) {
	r := rand.New(rand.NewSource(76))
	numbers := append(farNumbers(), 0, 1, 2, 3, 4, 5, 9, 10, 11, 20, 38, 39, 40, 41, -40)
	texts := append(noGatesTexts(), "", "1", "39", "3|5")
	number := func() int { return numbers[r.Intn(len(numbers))] }
	for range 3000 {
		c := row{number(), anyList(r, impl.MaxGates, impl.MaxRow, numbers)}
		if r.Intn(2) == 0 {
			c.boards = 2 + r.Intn(impl.MaxRow-1)
			c.gates = randomGates(r, c.boards)
		}
		var trips [][]int
		for range r.Intn(23) {
			trips = append(trips, anyList(r, 2, 9, numbers))
		}
		calls := append(allGateCalls(c, trips, number(), number()), manyCalls(number(), number(), number()), map[string][]any{
			"FewestGates": results(impl.FewestGates(number(), number())),
			"ParseGates":  results(impl.ParseGates(texts[r.Intn(len(texts))])),
		})
		expectZeroIfFailed(t, calls)
	}
}
