package tests

import (
	"math/rand"
	"slices"

	"loop.example/g01373/impl"
)

// plainPlaces puts a post wherever the next place would be farther than a gap, and asks for no whole multiples.
func plainPlaces(long int, gap int) []int {
	places := []int{0}
	for place := 1; place <= long; place++ {
		if place == long || place == places[len(places)-1]+gap {
			places = append(places, place)
		}
	}
	return places
}

// plainFewestPosts goes from each place to all that are near enough.
func plainFewestPosts(long int, gap int) int {
	posts := []int{1}
	for place := 1; place <= long; place++ {
		posts = append(posts, 1+slices.Min(posts[max(0, place-gap):]))
	}
	return posts[long]
}

// plainHoles looks at each place of a fence; it returns those that are both fences' and how many are one's.
func plainHoles(long int, a int, b int) ([]int, int) {
	var shared []int
	all := 0
	for place := range long + 1 {
		if place%a == 0 && place%b == 0 {
			shared = append(shared, place)
		}
		if place%a == 0 || place%b == 0 {
			all++
		}
	}
	return shared, all
}

// plainRests returns what is left of each bar by a list, if that is a cut.
func plainRests(rails []int, bar int, cut []int) ([]int, bool) {
	if len(cut) != len(rails) {
		return nil, false
	}
	used := map[int]int{}
	for i, k := range cut {
		used[k] += rails[i]
	}
	var left []int
	for k := range len(used) {
		if used[k] == 0 || used[k] > bar {
			return nil, false
		}
		left = append(left, bar-used[k])
	}
	return left, true
}

// allCuts returns all lists of so many numbers, each at most one more than all before it, in order: other cuts are alike but for the numbers of bars, and come later.
func allCuts(rails int) [][]int {
	lists := [][]int{{0}}
	for len(lists[0]) < rails {
		var longer [][]int
		for _, list := range lists {
			for k := range slices.Max(list) + 2 {
				longer = append(longer, append(slices.Clone(list), k))
			}
		}
		lists = longer
	}
	return lists
}

// plainFirstCut returns the first one of the lists with the fewest bars, nil if none is a cut.
func plainFirstCut(rails []int, bar int, lists [][]int) []int {
	var first []int
	for _, cut := range lists {
		_, ok := plainRests(rails, bar, cut)
		if ok && (first == nil || slices.Max(cut) < slices.Max(first)) {
			first = cut
		}
	}
	return first
}

// plainLeastBar returns the least of what the lists with few bars need for their fullest one.
func plainLeastBar(rails []int, bars int, lists [][]int) int {
	least := sum(rails)
	for _, cut := range lists {
		if slices.Max(cut) < bars {
			left, _ := plainRests(rails, sum(rails), cut)
			least = min(least, sum(rails)-slices.Min(left))
		}
	}
	return least
}

// plainFirstFit fills bar after bar.
func plainFirstFit(rails []int, bar int) []int {
	cut := times(len(rails), -1)
	for k := 0; slices.Contains(cut, -1); k++ {
		left := bar
		for i, rail := range rails {
			if cut[i] == -1 && rail <= left {
				cut[i], left = k, left-rail
			}
		}
	}
	return cut
}

// plainSteps binds each height by each other one.
func plainSteps(ground []int, most int) []int {
	steps := slices.Clone(ground)
	for i := range steps {
		for j, height := range ground {
			steps[i] = min(steps[i], height+most*max(i-j, j-i))
		}
	}
	return steps
}

// allGrounds returns all lists of so many heights in 0..most.
func allGrounds(heights int, most int) [][]int {
	grounds := [][]int{nil}
	for range heights {
		var longer [][]int
		for _, ground := range grounds {
			for height := range most + 1 {
				longer = append(longer, append(slices.Clone(ground), height))
			}
		}
		grounds = longer
	}
	return grounds
}

// randomRails returns rails that are much alike, or not.
func randomRails(r *rand.Rand) []int {
	return randomNumbers(r, impl.MaxRails, []int{1, 2, 5, 12, 100, 500}[r.Intn(6)])
}

func randomGround(r *rand.Rand) []int {
	ground := make([]int, 2+r.Intn(11))
	most := []int{1, 4, 50}[r.Intn(3)]
	for i := range ground {
		ground[i] = r.Intn(most + 1)
	}
	return ground
}
