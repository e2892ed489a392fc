package tests

import (
	"cmp"
	"fmt"
	"math/rand"
	"slices"
	"testing"

	"loop.example/g01373/impl"
)

// TestAllPosts goes through all lengths and gaps.
func TestAllPosts(t *testing.T) {
	for long := 1; long <= impl.MaxLong; long++ {
		for gap := 1; gap <= impl.MaxLong; gap++ {
			posts, ok := impl.FewestPosts(long, gap)
			// So many gaps are long enough, and one less are not.
			if !ok || (posts-1)*gap < long || (posts-2)*gap >= long {
				t.Fatal("FewestPosts", long, gap, posts, ok)
			}
			far, of := fractionOf(fraction(long, posts-1))
			if gotFar, gotOf, ok := impl.EvenGap(long, gap); gotFar != far || gotOf != of || !ok {
				t.Fatal("EvenGap", long, gap, gotFar, gotOf, ok)
			}
		}
	}
}

// checkPlaces compares the places of posts with those that come about step by step.
func checkPlaces(t *testing.T, long int, gap int) {
	t.Helper()
	name := fmt.Sprint(" ", long, gap)
	fewest := plainFewestPosts(long, gap)
	expect(t, "FewestPosts"+name, results(impl.FewestPosts(long, gap)), fewest, true)
	expect(t, "PlacesOfPosts"+name, results(impl.PlacesOfPosts(long, gap)), plainPlaces(long, gap), true)
	places, ok := impl.WholePlaces(long, gap)
	if !ok || len(places) != fewest || places[0] != 0 || places[fewest-1] != long {
		t.Fatal("WholePlaces"+name, places, ok)
	}
	for post, place := range places {
		// The place itself is not before it, and before the next whole one.
		exact := fraction(post*long, fewest-1)
		if exact.Cmp(fraction(place, 1)) < 0 || exact.Cmp(fraction(place+1, 1)) >= 0 || post > 0 && place-places[post-1] > gap {
			t.Fatal("WholePlaces"+name, places)
		}
	}
}

func TestPlaces(t *testing.T) {
	for long := 1; long <= 30; long++ {
		for gap := 1; gap <= 32; gap++ {
			checkPlaces(t, long, gap)
		}
	}
	r := rand.New(rand.NewSource(41))
	for range 300 {
		checkPlaces(t, 1+r.Intn(impl.MaxLong), 1+r.Intn([]int{10, 50, 500}[r.Intn(3)]))
	}
}

func TestRectangles(t *testing.T) {
	for wide := 1; wide <= impl.MaxLong; wide++ {
		for _, high := range []int{1, 2, 30, 36, 97, 250, 499, 500, wide} {
			even := min(wide, high)
			for wide%even != 0 || high%even != 0 {
				even--
			}
			expect(t, fmt.Sprint("GapAround ", wide, high), results(impl.GapAround(wide, high)), even, true)
			expect(t, fmt.Sprint("GapAround ", high, wide), results(impl.GapAround(high, wide)), even, true)
		}
	}
	for wide := 1; wide <= 12; wide++ {
		for high := 1; high <= 12; high++ {
			for gap := 1; gap <= 13; gap++ {
				// Four sides, whose last posts are the first ones of the next sides.
				posts := 2*plainFewestPosts(wide, gap) + 2*plainFewestPosts(high, gap) - 4
				expect(t, fmt.Sprint("PostsAround ", wide, high, gap), results(impl.PostsAround(wide, high, gap)), posts, true)
			}
		}
	}
}

func checkHoles(t *testing.T, long int, a int, b int) {
	t.Helper()
	name := fmt.Sprint(" ", long, a, b)
	shared, all := plainHoles(long, a, b)
	expect(t, "SharedHoles"+name, results(impl.SharedHoles(long, a, b)), shared, true)
	expect(t, "CountHoles"+name, results(impl.CountHoles(long, a, b)), all, true)
}

func TestAllHoles(t *testing.T) {
	for long := 1; long <= 24; long++ {
		for a := 1; a <= 13; a++ {
			for b := 1; b <= 13; b++ {
				checkHoles(t, long, a, b)
			}
		}
	}
	r := rand.New(rand.NewSource(42))
	for range 500 {
		most := []int{20, 100, 500}[r.Intn(3)]
		checkHoles(t, 1+r.Intn(impl.MaxLong), 1+r.Intn(most), 1+r.Intn(most))
	}
}

// checkCuts compares with all lists, and holds the first cut by the program's own rests.
func checkCuts(t *testing.T, rails []int, bar int, lists [][]int) {
	t.Helper()
	name := fmt.Sprint(" ", rails, bar)
	first := plainFirstCut(rails, bar, lists)
	if first == nil {
		expectAllZero(t, name, barCalls(rails, bar))
		return
	}
	expect(t, "FewestBars"+name, results(impl.FewestBars(rails, bar)), slices.Max(first)+1, true)
	expect(t, "FirstCut"+name, results(impl.FirstCut(rails, bar)), first, true)
	fit := plainFirstFit(rails, bar)
	expect(t, "FirstFit"+name, results(impl.FirstFit(rails, bar)), fit, true)
	for _, cut := range [][]int{first, fit} {
		left, _ := plainRests(rails, bar, cut)
		expect(t, "IsCut"+name, results(impl.IsCut(rails, bar, cut)), true, true)
		expect(t, "RestsOfCut"+name, results(impl.RestsOfCut(rails, bar, cut)), left, true)
	}
}

// checkLeastBar looks at whether bars so long are enough, and shorter ones are not, too.
func checkLeastBar(t *testing.T, rails []int, bars int, lists [][]int) {
	t.Helper()
	name := fmt.Sprint(" ", rails, bars)
	least := plainLeastBar(rails, bars, lists)
	expect(t, "LeastBar"+name, results(impl.LeastBar(rails, bars)), least, true)
	if fewest, ok := impl.FewestBars(rails, least); ok && fewest > bars {
		t.Error("FewestBars"+name, least, fewest)
	}
	if fewest, ok := impl.FewestBars(rails, least-1); ok && fewest <= bars {
		t.Error("FewestBars"+name, least-1, fewest)
	}
}

// TestAllShortCuts goes through all cuts of all short rails, with all lists of bars and not only those that come first.
func TestAllShortCuts(t *testing.T) {
	for _, rails := range allNumbers(4, 4) {
		lists := allGrounds(len(rails), len(rails)-1)
		for bar := 1; bar <= sum(rails)+1; bar++ {
			checkCuts(t, rails, bar, lists)
		}
		for bars := 1; bars <= impl.MaxRails; bars++ {
			checkLeastBar(t, rails, bars, allCuts(len(rails)))
		}
	}
}

func TestRandomCuts(t *testing.T) {
	r := rand.New(rand.NewSource(43))
	for range 250 {
		rails := randomRails(r)
		lists := allCuts(len(rails))
		longest := slices.Max(rails)
		for _, bar := range []int{longest, longest - 1, longest + r.Intn(longest+1), 2 * longest, 3 * longest, 1 + r.Intn(sum(rails))} {
			if bar >= 1 && bar <= impl.MaxLong {
				checkCuts(t, rails, bar, lists)
			}
		}
		checkLeastBar(t, rails, 1+r.Intn(impl.MaxRails), lists)
	}
}

// TestLongCuts has as many rails as there may be.
func TestLongCuts(t *testing.T) {
	r := rand.New(rand.NewSource(44))
	lists := allCuts(impl.MaxRails)
	for _, most := range []int{1, 2, 3, 10, 100, 500} {
		rails := make([]int, impl.MaxRails)
		for range 5 {
			for i := range rails {
				rails[i] = 1 + r.Intn(most)
			}
			for _, bar := range []int{slices.Max(rails), most, min(2*most, 500), min(3*most, 500), sum(rails) / 4} {
				if bar >= 1 && bar <= impl.MaxLong {
					checkCuts(t, rails, bar, lists)
				}
			}
			for bars := 1; bars <= impl.MaxRails; bars++ {
				checkLeastBar(t, rails, bars, lists)
			}
		}
	}
}

// TestAllCuts holds IsCut and RestsOfCut against all lists of small numbers.
func TestAllCuts(t *testing.T) {
	for _, rails := range [][]int{{3}, {3, 2}, {2, 2, 1}, {1, 2, 3, 1}} {
		for bar := 1; bar <= sum(rails)+1; bar++ {
			for numbers := range 5 {
				for _, cut := range allGrounds(numbers, 5) {
					for i := range cut {
						cut[i]--
					}
					name := fmt.Sprint(" ", rails, bar, cut)
					left, isCut := plainRests(rails, bar, cut)
					if slices.Contains(cut, -1) {
						left, isCut = nil, false
					}
					expect(t, "IsCut"+name, results(impl.IsCut(rails, bar, cut)), isCut, true)
					expect(t, "RestsOfCut"+name, results(impl.RestsOfCut(rails, bar, cut)), left, isCut)
				}
			}
		}
	}
}

// plainWhole looks for a whole number with a square, up to the longest rail that there may be.
func plainWhole(square int) int {
	for root := range 600 {
		if root*root == square {
			return root
		}
	}
	return 0
}

func checkSlopes(t *testing.T, ground []int, gap int) {
	t.Helper()
	var squares, rails []int
	for post := 1; post < len(ground); post++ {
		up := ground[post] - ground[post-1]
		squares = append(squares, gap*gap+up*up)
		rails = append(rails, plainWhole(gap*gap+up*up))
	}
	areWhole := !slices.Contains(rails, 0)
	if !areWhole {
		rails = nil
	}
	name := fmt.Sprint(" ", ground, gap)
	expect(t, "SquaresOfRails"+name, results(impl.SquaresOfRails(ground, gap)), squares, true)
	expect(t, "WholeRails"+name, results(impl.WholeRails(ground, gap)), rails, areWhole)
}

func TestAllSlopes(t *testing.T) {
	for gap := 1; gap <= impl.MaxLong; gap++ {
		for height := 0; height <= impl.MaxGround; height++ {
			checkSlopes(t, []int{0, height}, gap)
		}
	}
	r := rand.New(rand.NewSource(45))
	for range 500 {
		checkSlopes(t, randomGround(r), 1+r.Intn(20))
	}
}

// TestShortSteps finds the highest of all steps below all short grounds.
func TestShortSteps(t *testing.T) {
	for heights := 2; heights <= 4; heights++ {
		grounds := allGrounds(heights, 4)
		for _, ground := range grounds {
			for most := range 5 {
				highest := make([]int, heights)
				for _, steps := range grounds {
					if areSteps(steps, ground, most) {
						for i := range highest {
							highest[i] = max(highest[i], steps[i])
						}
					}
				}
				expect(t, fmt.Sprint("LevelSteps ", ground, most), results(impl.LevelSteps(ground, most)), highest, true)
			}
		}
	}
}

func areSteps(steps []int, ground []int, most int) bool {
	for i := range steps {
		if steps[i] > ground[i] || i > 0 && max(steps[i]-steps[i-1], steps[i-1]-steps[i]) > most {
			return false
		}
	}
	return true
}

func TestRandomSteps(t *testing.T) {
	r := rand.New(rand.NewSource(46))
	for range 1000 {
		ground, most := randomGround(r), r.Intn([]int{2, 8, 51}[r.Intn(3)])
		expect(t, fmt.Sprint("LevelSteps ", ground, most), results(impl.LevelSteps(ground, most)), plainSteps(ground, most), true)
	}
}

func TestAllFirstRails(t *testing.T) {
	var all [][]int
	for gap := 1; gap <= impl.MaxLong; gap++ {
		for up := 1; up <= gap; up++ {
			if length := plainWhole(gap*gap + up*up); length > 0 && length <= impl.MaxLong {
				all = append(all, []int{gap, up, length})
			}
		}
	}
	slices.SortFunc(all, func(a, b []int) int { return cmp.Or(cmp.Compare(a[2], b[2]), cmp.Compare(a[0], b[0])) })
	for most := 1; most <= impl.MaxLong; most++ {
		if most > 100 && most%50 > 0 {
			continue
		}
		short := slices.DeleteFunc(slices.Clone(all), func(rail []int) bool { return rail[2] > most })
		expect(t, fmt.Sprint("FirstRails ", most), results(impl.FirstRails(most)), short, true)
	}
}

func TestRandomRailsTexts(t *testing.T) {
	r := rand.New(rand.NewSource(47))
	for range 500 {
		rails := randomRails(r)
		want := ""
		for _, rail := range rails {
			want += fmt.Sprint("-", rail)
		}
		expect(t, "RailsText", results(impl.RailsText(rails)), want[1:], true)
		expect(t, "ParseRails", results(impl.ParseRails(want[1:])), rails, true)
	}
}
