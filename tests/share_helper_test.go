package tests

import (
	"math"
	"math/big"
	"math/rand"
	"slices"

	"loop.example/g01373/impl"
)

// plainShares returns all shares of so many boards in order.
func plainShares(boards int, painters int) [][]int {
	if painters == 1 {
		return [][]int{{boards}}
	}
	var shares [][]int
	for part := 0; part <= boards; part++ {
		for _, rest := range plainShares(boards-part, painters-1) {
			shares = append(shares, append([]int{part}, rest...))
		}
	}
	return shares
}

// plainTimes goes from board to board, painter by painter.
func plainTimes(widths []int, rates []int, share []int) []int {
	times := make([]int, len(rates))
	board := 0
	for painter, part := range share {
		for range part {
			times[painter] += rates[painter] * widths[board]
			board++
		}
	}
	return times
}

// plainLeast returns the least time, and all shares by which the whole takes no longer, of those told.
func plainLeast(widths []int, rates []int, shares [][]int) (int, [][]int) {
	least := math.MaxInt
	var found [][]int
	for _, share := range shares {
		longest := slices.Max(plainTimes(widths, rates, share))
		if longest < least {
			least, found = longest, nil
		}
		if longest == least {
			found = append(found, share)
		}
	}
	return least, found
}

// plainOrders returns all orders of painters, in the order of lists.
func plainOrders(painters int) [][]int {
	lists := [][]int{nil}
	for range painters {
		var longer [][]int
		for _, list := range lists {
			for painter := range painters {
				if !slices.Contains(list, painter) {
					longer = append(longer, append(slices.Clone(list), painter))
				}
			}
		}
		lists = longer
	}
	return lists
}

// plainBestOrder goes through all orders and all shares.
func plainBestOrder(widths []int, rates []int, shares [][]int) ([]int, int) {
	var best []int
	least := math.MaxInt
	for _, order := range plainOrders(len(rates)) {
		var ordered []int
		for _, painter := range order {
			ordered = append(ordered, rates[painter])
		}
		if minutes, _ := plainLeast(widths, ordered, shares); minutes < least {
			best, least = order, minutes
		}
	}
	return best, least
}

// plainFewest goes through all sets of places between boards at which a painter ends; it returns 0 if none will do.
func plainFewest(widths []int, most int) int {
	fewest := 0
	for ends := range 1 << (len(widths) - 1) {
		painters, work, fits := 1, 0, true
		for board, width := range widths {
			if board > 0 && ends>>(board-1)&1 == 1 {
				painters, work = painters+1, 0
			}
			work += width
			fits = fits && work <= most
		}
		if fits && (fewest == 0 || painters < fewest) {
			fewest = painters
		}
	}
	return fewest
}

func fraction(numerator int, denominator int) *big.Rat {
	return big.NewRat(int64(numerator), int64(denominator))
}

// fractionOf returns the numbers of a fraction in lowest terms, as results are told.
func fractionOf(r *big.Rat) (int, int) {
	return int(r.Num().Int64()), int(r.Denom().Int64())
}

// plainSpeed is how much width painters paint in a minute together.
func plainSpeed(rates []int) *big.Rat {
	speed := new(big.Rat)
	for _, rate := range rates {
		speed.Add(speed, fraction(1, rate))
	}
	return speed
}

// randomNumbers returns 1..long numbers in 1..most.
func randomNumbers(r *rand.Rand, long int, most int) []int {
	numbers := make([]int, 1+r.Intn(long))
	for i := range numbers {
		numbers[i] = 1 + r.Intn(most)
	}
	return numbers
}

// randomWidths returns widths that are much alike, or not.
func randomWidths(r *rand.Rand) []int {
	return randomNumbers(r, impl.MaxShared, []int{1, 2, 5, 100}[r.Intn(4)])
}

func randomRates(r *rand.Rand) []int {
	return randomNumbers(r, impl.MaxPainters, []int{1, 2, 4, 20}[r.Intn(4)])
}

// times returns so many equal numbers.
func times(many int, number int) []int {
	return slices.Repeat([]int{number}, many)
}

// sum adds up numbers.
func sum(numbers []int) int {
	all := 0
	for _, number := range numbers {
		all += number
	}
	return all
}
