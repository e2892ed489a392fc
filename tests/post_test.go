package tests

import (
	"fmt"
	"slices"
	"strings"
	"testing"

	"loop.example/g01373/impl"
)

// Promise 4: posts are as few as gaps allow, and cuts use each bar for what fits.

func TestPostConstants(t *testing.T) {
	if impl.MaxLong != 500 || impl.MaxRails != 8 || impl.MaxGround != 50 {
		t.Error("limits", impl.MaxLong, impl.MaxRails, impl.MaxGround)
	}
}

func TestPostExample(t *testing.T) {
	expect(t, "FewestPosts", results(impl.FewestPosts(10, 4)), 4, true)
	expect(t, "PlacesOfPosts", results(impl.PlacesOfPosts(10, 4)), []int{0, 4, 8, 10}, true)
	expect(t, "EvenGap", results(impl.EvenGap(10, 4)), 10, 3, true)
	expect(t, "WholePlaces", results(impl.WholePlaces(10, 4)), []int{0, 3, 6, 10}, true)
	expect(t, "PostsAround", results(impl.PostsAround(10, 6, 4)), 10, true)
	expect(t, "GapAround", results(impl.GapAround(10, 6)), 2, true)
	expect(t, "SharedHoles", results(impl.SharedHoles(12, 2, 3)), []int{0, 6, 12}, true)
	expect(t, "CountHoles", results(impl.CountHoles(12, 2, 3)), 9, true)
	rails := []int{5, 4, 3, 3}
	expect(t, "ParseRails", results(impl.ParseRails("5-4-3-3")), rails, true)
	expect(t, "RailsText", results(impl.RailsText(rails)), "5-4-3-3", true)
	expect(t, "FewestBars", results(impl.FewestBars(rails, 8)), 2, true)
	expect(t, "FirstCut", results(impl.FirstCut(rails, 8)), []int{0, 1, 0, 1}, true)
	expect(t, "FirstFit", results(impl.FirstFit(rails, 8)), []int{0, 1, 0, 1}, true)
	expect(t, "IsCut", results(impl.IsCut(rails, 8, []int{0, 1, 0, 1})), true, true)
	expect(t, "RestsOfCut", results(impl.RestsOfCut(rails, 8, []int{0, 1, 0, 1})), []int{0, 1}, true)
	expect(t, "LeastBar", results(impl.LeastBar(rails, 2)), 8, true)
	expect(t, "SquaresOfRails", results(impl.SquaresOfRails([]int{0, 3, 3}, 4)), []int{25, 16}, true)
	expect(t, "WholeRails", results(impl.WholeRails([]int{0, 3, 3}, 4)), []int{5, 4}, true)
	expect(t, "LevelSteps", results(impl.LevelSteps([]int{0, 5, 2, 1}, 1)), []int{0, 1, 2, 1}, true)
	expect(t, "FirstRails", results(impl.FirstRails(10)), [][]int{{4, 3, 5}, {8, 6, 10}}, true)
}

func TestPosts(t *testing.T) {
	for _, c := range []struct {
		long, gap int
		places    []int
		far, of   int
		whole     []int
	}{
		{1, 1, []int{0, 1}, 1, 1, []int{0, 1}}, {1, 2, []int{0, 1}, 1, 1, []int{0, 1}}, {1, 500, []int{0, 1}, 1, 1, []int{0, 1}},
		{500, 500, []int{0, 500}, 500, 1, []int{0, 500}}, {500, 499, []int{0, 499, 500}, 250, 1, []int{0, 250, 500}}, {499, 500, []int{0, 499}, 499, 1, []int{0, 499}},
		{2, 1, []int{0, 1, 2}, 1, 1, []int{0, 1, 2}}, {3, 2, []int{0, 2, 3}, 3, 2, []int{0, 1, 3}}, {4, 2, []int{0, 2, 4}, 2, 1, []int{0, 2, 4}},
		{5, 2, []int{0, 2, 4, 5}, 5, 3, []int{0, 1, 3, 5}}, {8, 4, []int{0, 4, 8}, 4, 1, []int{0, 4, 8}}, {9, 4, []int{0, 4, 8, 9}, 3, 1, []int{0, 3, 6, 9}},
		{11, 4, []int{0, 4, 8, 11}, 11, 3, []int{0, 3, 7, 11}}, {10, 3, []int{0, 3, 6, 9, 10}, 5, 2, []int{0, 2, 5, 7, 10}}, {7, 9, []int{0, 7}, 7, 1, []int{0, 7}},
		{500, 200, []int{0, 200, 400, 500}, 500, 3, []int{0, 166, 333, 500}}, {500, 125, []int{0, 125, 250, 375, 500}, 125, 1, []int{0, 125, 250, 375, 500}},
	} {
		name := fmt.Sprint(" ", c)
		expect(t, "FewestPosts"+name, results(impl.FewestPosts(c.long, c.gap)), len(c.places), true)
		expect(t, "PlacesOfPosts"+name, results(impl.PlacesOfPosts(c.long, c.gap)), c.places, true)
		expect(t, "EvenGap"+name, results(impl.EvenGap(c.long, c.gap)), c.far, c.of, true)
		expect(t, "WholePlaces"+name, results(impl.WholePlaces(c.long, c.gap)), c.whole, true)
	}
	expect(t, "FewestPosts", results(impl.FewestPosts(500, 1)), 501, true)
	expect(t, "EvenGap", results(impl.EvenGap(500, 1)), 1, 1, true)
	places, _ := impl.PlacesOfPosts(500, 1)
	if len(places) != 501 || places[0] != 0 || places[1] != 1 || places[499] != 499 || places[500] != 500 {
		t.Error("PlacesOfPosts", places)
	}
	expect(t, "WholePlaces", results(impl.WholePlaces(500, 1)), places, true)
}

func TestAroundRectangle(t *testing.T) {
	for _, c := range []struct{ wide, high, gap, posts, even int }{
		{1, 1, 1, 4, 1}, {1, 1, 500, 4, 1}, {500, 500, 1, 2000, 500}, {500, 500, 500, 4, 500}, {500, 500, 499, 8, 500}, {500, 1, 500, 4, 1}, {1, 500, 1, 1002, 1},
		{1, 500, 499, 6, 1}, {6, 10, 4, 10, 2}, {3, 4, 2, 8, 1}, {4, 6, 2, 10, 2}, {12, 18, 6, 10, 6}, {12, 18, 7, 10, 6}, {499, 500, 250, 8, 1}, {7, 7, 3, 12, 7},
	} {
		name := fmt.Sprint(" ", c)
		expect(t, "PostsAround"+name, results(impl.PostsAround(c.wide, c.high, c.gap)), c.posts, true)
		expect(t, "GapAround"+name, results(impl.GapAround(c.wide, c.high)), c.even, true)
	}
}

func TestHoles(t *testing.T) {
	for _, c := range []struct {
		long, a, b int
		shared     []int
		all        int
	}{
		{1, 1, 1, []int{0, 1}, 2}, {1, 2, 2, []int{0}, 1}, {1, 1, 2, []int{0}, 2}, {1, 500, 500, []int{0}, 1}, {500, 500, 500, []int{0, 500}, 2},
		{500, 500, 250, []int{0, 500}, 3}, {499, 500, 500, []int{0}, 1}, {500, 499, 500, []int{0}, 3}, {6, 2, 3, []int{0, 6}, 5}, {5, 2, 3, []int{0}, 4},
		{12, 4, 6, []int{0, 12}, 5}, {12, 3, 6, []int{0, 6, 12}, 5}, {12, 6, 3, []int{0, 6, 12}, 5}, {8, 4, 4, []int{0, 4, 8}, 3}, {12, 13, 1, []int{0}, 13},
		// The right end has posts of both, or of one more, that are no multiples.
		{13, 2, 3, []int{0, 6, 12}, 9}, {11, 4, 6, []int{0}, 4}, {12, 5, 4, []int{0}, 6}, {10, 4, 3, []int{0}, 6}, {10, 20, 30, []int{0}, 1}, {500, 300, 400, []int{0}, 3},
	} {
		name := fmt.Sprint(" ", c)
		expect(t, "SharedHoles"+name, results(impl.SharedHoles(c.long, c.a, c.b)), c.shared, true)
		expect(t, "CountHoles"+name, results(impl.CountHoles(c.long, c.a, c.b)), c.all, true)
	}
	expect(t, "CountHoles", results(impl.CountHoles(500, 1, 1)), 501, true)
	expect(t, "CountHoles", results(impl.CountHoles(500, 1, 500)), 501, true)
}

func TestAreRails(t *testing.T) {
	for _, rails := range [][]int{{1}, {500}, {1, 500}, {500, 1, 250}, times(8, 1), times(8, 500)} {
		expect(t, fmt.Sprint("AreRails ", rails), results(impl.AreRails(rails)), true)
	}
	for _, rails := range noRails() {
		expect(t, fmt.Sprint("AreRails ", rails), results(impl.AreRails(rails)), false)
	}
}

func TestIsCut(t *testing.T) {
	for _, c := range []struct {
		rails []int
		bar   int
		cut   []int
		rests []int
	}{
		{[]int{1}, 1, []int{0}, []int{0}}, {[]int{1}, 500, []int{0}, []int{499}}, {[]int{500}, 500, []int{0}, []int{0}}, {[]int{4, 4}, 8, []int{0, 0}, []int{0}},
		{[]int{4, 4}, 8, []int{0, 1}, []int{4, 4}}, {[]int{4, 4}, 8, []int{1, 0}, []int{4, 4}}, {[]int{4, 3}, 8, []int{1, 0}, []int{5, 4}},
		{[]int{1, 2, 3}, 4, []int{2, 1, 0}, []int{1, 2, 3}}, {[]int{1, 2, 3}, 4, []int{2, 0, 1}, []int{2, 1, 3}}, {[]int{1, 2, 3}, 6, []int{0, 0, 0}, []int{0}},
		{times(8, 1), 8, times(8, 0), []int{0}}, {times(8, 500), 500, []int{7, 6, 5, 4, 3, 2, 1, 0}, times(8, 0)}, {times(8, 1), 2, []int{3, 0, 2, 1, 1, 2, 0, 3}, times(4, 0)},
		{[]int{1, 2, 3, 4, 5, 6, 7, 8}, 9, []int{0, 1, 2, 3, 3, 2, 1, 0}, times(4, 0)},
	} {
		name := fmt.Sprint(" ", c)
		expect(t, "IsCut"+name, results(impl.IsCut(c.rails, c.bar, c.cut)), true, true)
		expect(t, "RestsOfCut"+name, results(impl.RestsOfCut(c.rails, c.bar, c.cut)), c.rests, true)
	}
	for _, cut := range noCuts() {
		name := fmt.Sprint(" ", cut)
		expect(t, "IsCut"+name, results(impl.IsCut([]int{5, 4, 3, 3}, 8, cut)), false, true)
		expectZero(t, "RestsOfCut"+name, results(impl.RestsOfCut([]int{5, 4, 3, 3}, 8, cut)))
	}
	// A rail that is longer than a bar is no invalid argument; it is in no cut.
	for _, cut := range [][]int{{0, 1}, {1, 0}, {0, 0}} {
		expect(t, "IsCut", results(impl.IsCut([]int{9, 4}, 8, cut)), false, true)
		expectZero(t, "RestsOfCut", results(impl.RestsOfCut([]int{9, 4}, 8, cut)))
	}
	expect(t, "IsCut", results(impl.IsCut([]int{500}, 499, []int{0})), false, true)
}

func TestCuts(t *testing.T) {
	for _, c := range []struct {
		rails []int
		bar   int
		first []int
		fit   []int
	}{
		{[]int{1}, 1, []int{0}, []int{0}}, {[]int{1}, 500, []int{0}, []int{0}}, {[]int{500}, 500, []int{0}, []int{0}}, {times(8, 500), 500, []int{0, 1, 2, 3, 4, 5, 6, 7}, []int{0, 1, 2, 3, 4, 5, 6, 7}},
		{times(8, 1), 500, times(8, 0), times(8, 0)}, {times(8, 1), 8, times(8, 0), times(8, 0)}, {times(8, 1), 7, []int{0, 0, 0, 0, 0, 0, 0, 1}, []int{0, 0, 0, 0, 0, 0, 0, 1}},
		{times(8, 3), 8, []int{0, 0, 1, 1, 2, 2, 3, 3}, []int{0, 0, 1, 1, 2, 2, 3, 3}}, {times(8, 250), 500, []int{0, 0, 1, 1, 2, 2, 3, 3}, []int{0, 0, 1, 1, 2, 2, 3, 3}},
		{times(8, 251), 500, []int{0, 1, 2, 3, 4, 5, 6, 7}, []int{0, 1, 2, 3, 4, 5, 6, 7}}, {[]int{8, 8, 1}, 8, []int{0, 1, 2}, []int{0, 1, 2}},
		// What fits first needs a bar more.
		{[]int{3, 3, 5, 5}, 8, []int{0, 1, 0, 1}, []int{0, 0, 1, 2}}, {[]int{1, 4, 3, 2, 4, 2}, 8, []int{0, 0, 0, 1, 1, 1}, []int{0, 0, 0, 1, 1, 1}},
		{[]int{2, 3, 4, 5, 6, 7}, 9, []int{0, 1, 2, 2, 1, 0}, []int{0, 0, 0, 1, 2, 3}}, {[]int{1, 1, 4, 4}, 5, []int{0, 1, 0, 1}, []int{0, 0, 1, 2}},
		// Several cuts are equally good.
		{[]int{2, 2, 2, 3}, 5, []int{0, 0, 1, 1}, []int{0, 0, 1, 1}}, {[]int{3, 2, 2, 3}, 5, []int{0, 0, 1, 1}, []int{0, 0, 1, 1}}, {[]int{1, 1, 2, 2}, 4, []int{0, 0, 0, 1}, []int{0, 0, 0, 1}},
		{[]int{2, 5, 2, 5, 1}, 8, []int{0, 0, 1, 1, 0}, []int{0, 0, 1, 1, 0}}, {[]int{6, 1, 1, 6}, 8, []int{0, 0, 0, 1}, []int{0, 0, 0, 1}},
	} {
		name := fmt.Sprint(" ", c)
		expect(t, "FewestBars"+name, results(impl.FewestBars(c.rails, c.bar)), slices.Max(c.first)+1, true)
		expect(t, "FirstCut"+name, results(impl.FirstCut(c.rails, c.bar)), c.first, true)
		expect(t, "FirstFit"+name, results(impl.FirstFit(c.rails, c.bar)), c.fit, true)
	}
}

// TestTooLongRails has a rail that is longer than a bar, wherever it is.
func TestTooLongRails(t *testing.T) {
	for _, rails := range [][]int{{2}, {500}, {2, 1}, {1, 2}, {5, 4, 3, 3}, {3, 3, 4, 5}, append(times(7, 1), 500), append([]int{500}, times(7, 499)...), times(8, 500), times(8, 2)} {
		longest := slices.Max(rails)
		for _, bar := range []int{1, longest / 2, longest - 1} {
			expectAllZero(t, fmt.Sprint(rails, bar), barCalls(rails, bar))
		}
		for name, got := range barCalls(rails, longest) {
			if got[1] != true {
				t.Error("a rail may be as long as a bar:", name, rails)
			}
		}
	}
}

func TestLeastBar(t *testing.T) {
	for _, c := range []struct {
		rails []int
		bars  int
		least int
	}{
		{[]int{1}, 1, 1}, {[]int{1}, 8, 1}, {[]int{500}, 1, 500}, {[]int{500}, 8, 500}, {[]int{5, 4, 3, 3}, 1, 15}, {[]int{5, 4, 3, 3}, 3, 6}, {[]int{5, 4, 3, 3}, 4, 5},
		{[]int{5, 4, 3, 3}, 8, 5}, {[]int{1, 1, 1, 9}, 2, 9}, {[]int{1, 1, 1, 9}, 3, 9}, {[]int{3, 3, 2, 2, 2}, 2, 6}, {[]int{7, 6, 5, 4, 3, 2, 1}, 4, 7}, {[]int{7, 6, 5, 4, 3, 2, 1}, 3, 10},
		// A bar may be longer than MaxLong here.
		{[]int{500, 1}, 1, 501}, {times(8, 500), 1, 4000}, {times(8, 500), 2, 2000}, {times(8, 500), 3, 1500}, {times(8, 500), 7, 1000}, {times(8, 500), 8, 500},
		{times(8, 1), 1, 8}, {times(8, 1), 3, 3}, {times(8, 1), 8, 1}, {[]int{500, 500, 499, 499}, 2, 999},
	} {
		expect(t, fmt.Sprint("LeastBar ", c), results(impl.LeastBar(c.rails, c.bars)), c.least, true)
	}
}

func TestSlopes(t *testing.T) {
	for _, c := range []struct {
		ground  []int
		gap     int
		squares []int
		rails   []int
	}{
		{[]int{0, 0}, 1, []int{1}, []int{1}}, {[]int{50, 50}, 500, []int{250000}, []int{500}}, {times(12, 7), 9, times(11, 81), times(11, 9)}, {[]int{0, 50}, 500, []int{252500}, nil},
		{[]int{50, 0}, 1, []int{2501}, nil}, {[]int{0, 50}, 120, []int{16900}, []int{130}}, {[]int{50, 2}, 14, []int{2500}, []int{50}}, {[]int{3, 0, 3, 3, 0}, 4, []int{25, 25, 16, 25}, []int{5, 5, 4, 5}},
		{[]int{0, 4, 8}, 3, []int{25, 25}, []int{5, 5}}, {[]int{0, 3, 4}, 4, []int{25, 17}, nil}, {[]int{0, 1, 4}, 4, []int{17, 25}, nil}, {[]int{0, 50, 0}, 1, []int{2501, 2501}, nil},
		{[]int{0, 5, 21, 12, 12, 17, 1, 10, 5, 0, 9, 25}, 12, []int{169, 400, 225, 144, 169, 400, 225, 169, 169, 225, 400}, []int{13, 20, 15, 12, 13, 20, 15, 13, 13, 15, 20}},
		{[]int{0, 45}, 336, []int{114921}, []int{339}}, {[]int{0, 46}, 336, []int{115012}, nil}, {[]int{0, 1}, 500, []int{250001}, nil}, {[]int{20, 0, 21}, 21, []int{841, 882}, nil},
	} {
		name := fmt.Sprint(" ", c)
		expect(t, "SquaresOfRails"+name, results(impl.SquaresOfRails(c.ground, c.gap)), c.squares, true)
		expect(t, "WholeRails"+name, results(impl.WholeRails(c.ground, c.gap)), c.rails, c.rails != nil)
	}
}

func TestLevelSteps(t *testing.T) {
	for _, c := range []struct {
		ground []int
		most   int
		steps  []int
	}{
		{[]int{0, 0}, 0, []int{0, 0}}, {[]int{50, 50}, 50, []int{50, 50}}, {[]int{0, 50}, 50, []int{0, 50}}, {[]int{0, 50}, 49, []int{0, 49}}, {[]int{50, 0}, 49, []int{49, 0}},
		{[]int{50, 0}, 0, []int{0, 0}}, {[]int{5, 3, 4}, 0, []int{3, 3, 3}}, {times(12, 7), 0, times(12, 7)}, {times(12, 50), 3, times(12, 50)}, {[]int{9, 5, 9}, 2, []int{7, 5, 7}},
		{append(times(11, 50), 0), 1, []int{11, 10, 9, 8, 7, 6, 5, 4, 3, 2, 1, 0}}, {append([]int{0}, times(11, 50)...), 5, []int{0, 5, 10, 15, 20, 25, 30, 35, 40, 45, 50, 50}},
		{append(times(11, 50), 0), 0, times(12, 0)}, {[]int{9, 0, 9, 9, 1, 9}, 3, []int{3, 0, 3, 4, 1, 4}}, {[]int{2, 4, 6, 8}, 2, []int{2, 4, 6, 8}}, {[]int{8, 6, 4, 2}, 2, []int{8, 6, 4, 2}},
	} {
		expect(t, fmt.Sprint("LevelSteps ", c), results(impl.LevelSteps(c.ground, c.most)), c.steps, true)
	}
}

func TestFirstRails(t *testing.T) {
	// Without any the list is empty, which is no failure.
	for most := 1; most < 5; most++ {
		expect(t, fmt.Sprint("FirstRails ", most), results(impl.FirstRails(most)), [][]int(nil), true)
	}
	for most := 5; most < 10; most++ {
		expect(t, fmt.Sprint("FirstRails ", most), results(impl.FirstRails(most)), [][]int{{4, 3, 5}}, true)
	}
	// There are two of the length 25, and of the length 65 four.
	expect(t, "FirstRails 25", results(impl.FirstRails(25)), [][]int{{4, 3, 5}, {8, 6, 10}, {12, 5, 13}, {12, 9, 15}, {15, 8, 17}, {16, 12, 20}, {20, 15, 25}, {24, 7, 25}}, true)
	rails, ok := impl.FirstRails(65)
	if !ok || len(rails) < 4 {
		t.Fatal("FirstRails 65", rails)
	}
	expect(t, "FirstRails 65", results(rails[len(rails)-4:]), [][]int{{52, 39, 65}, {56, 33, 65}, {60, 25, 65}, {63, 16, 65}})
}

func TestRailsTexts(t *testing.T) {
	for _, c := range []struct {
		rails []int
		text  string
	}{
		{[]int{1}, "1"}, {[]int{9}, "9"}, {[]int{10}, "10"}, {[]int{500}, "500"}, {[]int{1, 500}, "1-500"}, {[]int{20, 3, 1}, "20-3-1"}, {[]int{101}, "101"},
		{times(8, 500), strings.Repeat("500-", 7) + "500"}, {times(8, 1), "1-1-1-1-1-1-1-1"},
	} {
		expect(t, "RailsText "+c.text, results(impl.RailsText(c.rails)), c.text, true)
		expect(t, "ParseRails "+c.text, results(impl.ParseRails(c.text)), c.rails, true)
	}
	for _, rails := range noRails() {
		expectZero(t, fmt.Sprint("RailsText ", rails), results(impl.RailsText(rails)))
	}
	for _, text := range noRailsTexts() {
		expectZero(t, "ParseRails "+text, results(impl.ParseRails(text)))
	}
}
