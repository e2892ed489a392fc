package tests

import (
	"fmt"
	"math/rand"
	"slices"
	"testing"

	"loop.example/g01373/impl"
)

// allNumbers returns all lists of 1..long numbers in 1..most.
func allNumbers(long int, most int) [][]int {
	last := [][]int{nil}
	var all [][]int
	for range long {
		var longer [][]int
		for _, list := range last {
			for number := 1; number <= most; number++ {
				longer = append(longer, append(slices.Clone(list), number))
			}
		}
		last = longer
		all = append(all, longer...)
	}
	return all
}

// TestAllShortShares goes through all shares of all short fences.
func TestAllShortShares(t *testing.T) {
	for _, widths := range allNumbers(5, 3) {
		for painters := 1; painters <= impl.MaxPainters; painters++ {
			checkAlike(t, widths, painters)
		}
		for most := 1; most <= sum(widths)+1; most++ {
			checkGreedy(t, widths, most)
		}
	}
	for _, widths := range allNumbers(4, 3) {
		for _, rates := range allNumbers(3, 3) {
			checkRated(t, widths, rates)
			checkTogether(t, widths, rates)
		}
	}
}

func TestRandomShares(t *testing.T) {
	r := rand.New(rand.NewSource(31))
	for range 400 {
		widths, rates := randomWidths(r), randomRates(r)
		checkAlike(t, widths, 1+r.Intn(impl.MaxPainters))
		checkRated(t, widths, rates)
		checkTogether(t, widths, rates)
		checkMeet(t, widths, 1+r.Intn(20), 1+r.Intn(20))
		widest := slices.Max(widths)
		for _, most := range []int{1, widest - 1, widest, widest + r.Intn(widest+1), 1 + r.Intn(sum(widths)), sum(widths), impl.MaxTime} {
			if most > 0 {
				checkGreedy(t, widths, most)
			}
		}
	}
}

// TestLongShares has all painters and all boards.
func TestLongShares(t *testing.T) {
	r := rand.New(rand.NewSource(32))
	for _, most := range []int{1, 2, 3, 10, 100} {
		for range 4 {
			widths, rates := make([]int, impl.MaxShared), make([]int, impl.MaxPainters)
			for i := range widths {
				widths[i] = 1 + r.Intn(most)
			}
			for i := range rates {
				rates[i] = 1 + r.Intn(min(most, impl.MaxRate))
			}
			checkAlike(t, widths, impl.MaxPainters)
			checkRated(t, widths, rates)
			checkTogether(t, widths, rates)
		}
	}
}

// checkAlike compares with all shares of painters who are alike.
func checkAlike(t *testing.T, widths []int, painters int) {
	t.Helper()
	name := fmt.Sprint(" ", widths, painters)
	least, shares := plainLeast(widths, times(painters, 1), plainShares(len(widths), painters))
	expect(t, "LeastWork"+name, results(impl.LeastWork(widths, painters)), least, true)
	expect(t, "FirstShare"+name, results(impl.FirstShare(widths, painters)), shares[0], true)
	expect(t, "CountShares"+name, results(impl.CountShares(widths, painters)), len(shares), true)
}

// checkGreedy looks at whether each painter has something, and no room for the next board.
func checkGreedy(t *testing.T, widths []int, most int) {
	t.Helper()
	name := fmt.Sprint(" ", widths, most)
	fewest := plainFewest(widths, most)
	expect(t, "FewestPainters"+name, results(impl.FewestPainters(widths, most)), fewest, fewest > 0)
	share, ok := impl.GreedyShare(widths, most)
	if len(share) != fewest || ok != (fewest > 0) || ok && sum(share) != len(widths) {
		t.Fatalf("GreedyShare%s: %v, %v", name, share, ok)
	}
	board := 0
	for _, part := range share {
		next := board + max(part, 1)
		if part < 1 || sum(widths[board:next]) > most || next < len(widths) && sum(widths[board:next+1]) <= most {
			t.Fatalf("GreedyShare%s: %v", name, share)
		}
		board = next
	}
}

// checkRated compares with all shares in all orders, and holds the first share against the least time by the program's own times.
func checkRated(t *testing.T, widths []int, rates []int) {
	t.Helper()
	name := fmt.Sprint(" ", widths, rates)
	all := plainShares(len(widths), len(rates))
	least, shares := plainLeast(widths, rates, all)
	expect(t, "LeastTime"+name, results(impl.LeastTime(widths, rates)), least, true)
	expect(t, "FirstRated"+name, results(impl.FirstRated(widths, rates)), shares[0], true)
	expect(t, "IsShare"+name, results(impl.IsShare(widths, len(rates), shares[0])), true, true)
	expect(t, "TimesOf"+name, results(impl.TimesOf(widths, rates, shares[0])), plainTimes(widths, rates, shares[0]), true)
	expect(t, "WorkOf"+name, results(impl.WorkOf(widths, len(rates), shares[0])), plainTimes(widths, times(len(rates), 1), shares[0]), true)
	order, minutes := plainBestOrder(widths, rates, all)
	expect(t, "BestOrder"+name, results(impl.BestOrder(widths, rates)), order, minutes, true)
}

// checkTogether divides all that is to be painted by what all paint in a minute.
func checkTogether(t *testing.T, widths []int, rates []int) {
	t.Helper()
	name := fmt.Sprint(" ", widths, rates)
	speed := plainSpeed(rates)
	time, of := fractionOf(fraction(1, 1).Quo(fraction(sum(widths), 1), speed))
	expect(t, "TogetherTime"+name, results(impl.TogetherTime(widths, rates)), time, of, true)
	for k, rate := range rates {
		part, whole := fractionOf(fraction(1, 1).Quo(fraction(1, rate), speed))
		expect(t, "PartOfPainter"+name, results(impl.PartOfPainter(widths, rates, k)), part, whole, true)
	}
}

// checkMeet looks at whether both come to the place at the time, and whether the fractions are in lowest terms.
func checkMeet(t *testing.T, widths []int, left int, right int) {
	t.Helper()
	name := fmt.Sprint(" ", widths, left, right)
	time, of, ok := impl.MeetTime(widths, left, right)
	place, by, fine := impl.MeetPlace(widths, left, right)
	if !ok || !fine || of < 1 || by < 1 {
		t.Fatal("meet", name)
	}
	when, far := fraction(time, of), fraction(place, by)
	rest := fraction(1, 1).Sub(fraction(sum(widths), 1), far)
	if when.Cmp(far.Mul(far, fraction(left, 1))) != 0 || when.Cmp(rest.Mul(rest, fraction(right, 1))) != 0 {
		t.Errorf("meet%s: at %d / %d, %d / %d from the left", name, time, of, place, by)
	}
	lowTime, lowOf := fractionOf(fraction(time, of))
	lowPlace, lowBy := fractionOf(fraction(place, by))
	if time != lowTime || of != lowOf || place != lowPlace || by != lowBy {
		t.Errorf("meet%s: %d / %d, %d / %d are not in lowest terms", name, time, of, place, by)
	}
}

// TestAllMeetings has all rates of two.
func TestAllMeetings(t *testing.T) {
	for left := 1; left <= impl.MaxRate; left++ {
		for right := 1; right <= impl.MaxRate; right++ {
			for _, widths := range [][]int{{1}, {100}, {3, 5, 2, 4}, times(12, 1), times(12, 100), {7, 70}} {
				checkMeet(t, widths, left, right)
				checkTogether(t, widths, []int{left, right})
			}
		}
	}
}

// TestAllShares holds IsShare and WorkOf against all lists of small numbers.
func TestAllShares(t *testing.T) {
	widths := []int{1, 2, 4}
	for painters := 1; painters <= 4; painters++ {
		for _, list := range allNumbers(4, 6) {
			share, fits := make([]int, len(list)), len(list) == painters
			for i, number := range list {
				share[i] = number - 2
				fits = fits && share[i] >= 0
			}
			fits = fits && sum(share) == 3
			expect(t, fmt.Sprint("IsShare ", share), results(impl.IsShare(widths, painters, share)), fits, true)
			if !fits {
				expectZero(t, fmt.Sprint("WorkOf ", share), results(impl.WorkOf(widths, painters, share)))
				continue
			}
			expect(t, fmt.Sprint("WorkOf ", share), results(impl.WorkOf(widths, painters, share)), plainTimes(widths, times(painters, 1), share), true)
		}
	}
}

func TestRandomWidthsTexts(t *testing.T) {
	r := rand.New(rand.NewSource(33))
	for range 500 {
		widths := randomWidths(r)
		want := ""
		for i, width := range widths {
			if i > 0 {
				want += "-"
			}
			want += fmt.Sprint(width)
		}
		expect(t, "WidthsText", results(impl.WidthsText(widths)), want, true)
		expect(t, "ParseWidths", results(impl.ParseWidths(want)), widths, true)
		var widest []int
		for board, width := range widths {
			if width == slices.Max(widths) {
				widest = append(widest, board)
			}
		}
		expect(t, "WidestBoards", results(impl.WidestBoards(widths)), widest, true)
	}
}
