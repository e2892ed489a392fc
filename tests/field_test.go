package tests

import (
	"fmt"
	"slices"
	"strings"
	"testing"

	"loop.example/g01373/impl"
)

// Promise 8: rectangles have the told fences and areas, and fences around all fields add up.

// exampleLand returns land of which no test can spoil another one's.
func exampleLand() []string {
	return []string{"aab", "a.b"}
}

var (
	// mostRows, mostColumns and mostLand are as high and as wide as land may be.
	mostRows    = strings.Split("a/b/c/d/e/././a/a/b/c/c", "/")
	mostColumns = []string{"abcde..aabcc"}
	mostLand    = slices.Repeat([]string{"aaaaaaaaaaaa"}, impl.MaxAcre)
	nobodysLand = slices.Repeat([]string{"............"}, impl.MaxAcre)
)

func TestFieldConstants(t *testing.T) {
	if impl.MaxSide != 1000 || impl.MaxFields != 100 || impl.MaxAcre != 12 {
		t.Error("limits", impl.MaxSide, impl.MaxFields, impl.MaxAcre)
	}
}

func TestFieldExample(t *testing.T) {
	land := exampleLand()
	expect(t, "RectanglesByFence", results(impl.RectanglesByFence(10)), [][]int{{4, 1}, {3, 2}}, true)
	expect(t, "GreatestArea", results(impl.GreatestArea(10)), 3, 2, true)
	expect(t, "GreatestAtWall", results(impl.GreatestAtWall(12)), 6, 3, true)
	expect(t, "LeastFence", results(impl.LeastFence(12)), 4, 3, true)
	expect(t, "EqualFields", results(impl.EqualFields(10)), [][]int{{4, 4}, {6, 3}}, true)
	expect(t, "FenceOfRow", results(impl.FenceOfRow(3, 2, 4)), 28, true)
	expect(t, "LeastForFields", results(impl.LeastForFields(6)), 2, 3, true)
	expect(t, "SquaresInField", results(impl.SquaresInField(5, 3)), []int{3, 2, 1, 1}, true)
	expect(t, "CountSquares", results(impl.CountSquares(3, 2)), 8, true)
	expect(t, "ParseLand", results(impl.ParseLand("aab/a.b")), land, true)
	expect(t, "AreaOf", results(impl.AreaOf(land, "a")), 3, true)
	expect(t, "FenceAround", results(impl.FenceAround(land, "a")), 8, true)
	expect(t, "FenceBetween", results(impl.FenceBetween(land, "a", "b")), 1, true)
	expect(t, "AllFences", results(impl.AllFences(land)), 13, true)
	expect(t, "PartsOfField", results(impl.PartsOfField(land, "a")), []int{3}, true)
	expect(t, "NeighboursOf", results(impl.NeighboursOf(land, "a")), "b", true)
	expect(t, "FewestGatesOver", results(impl.FewestGatesOver(land, []int{0, 0}, []int{2, 1})), 1, true)
	expect(t, "TurnLand", results(impl.TurnLand(land)), []string{"aa", ".a", "bb"}, true)
}

func TestRectanglesByFence(t *testing.T) {
	for fence, rectangles := range map[int][][]int{
		4: {{1, 1}}, 6: {{2, 1}}, 8: {{3, 1}, {2, 2}}, 12: {{5, 1}, {4, 2}, {3, 3}}, 14: {{6, 1}, {5, 2}, {4, 3}}, 5: nil, 7: nil, 9: nil, 501: nil, 999: nil,
	} {
		expect(t, fmt.Sprint("RectanglesByFence ", fence), results(impl.RectanglesByFence(fence)), rectangles, true)
	}
	for fence, last := range map[int][]int{1000: {250, 250}, 998: {250, 249}, 500: {125, 125}} {
		rectangles, ok := impl.RectanglesByFence(fence)
		if !ok || len(rectangles) != fence/4 || !slices.Equal(rectangles[0], []int{fence/2 - 1, 1}) || !slices.Equal(rectangles[fence/4-1], last) {
			t.Error("RectanglesByFence", fence, rectangles)
		}
	}
}

func TestGreatestArea(t *testing.T) {
	for fence, sides := range map[int][2]int{4: {1, 1}, 6: {2, 1}, 8: {2, 2}, 12: {3, 3}, 14: {4, 3}, 996: {249, 249}, 998: {250, 249}, 1000: {250, 250}} {
		expect(t, fmt.Sprint("GreatestArea ", fence), results(impl.GreatestArea(fence)), sides[0], sides[1], true)
	}
	for _, odd := range []int{5, 7, 11, 501, 997, 999} {
		expectZero(t, fmt.Sprint("GreatestArea ", odd), results(impl.GreatestArea(odd)))
	}
}

func TestGreatestAtWall(t *testing.T) {
	for fence, sides := range map[int][2]int{
		3: {1, 1}, 4: {2, 1}, 5: {3, 1}, 7: {3, 2}, 8: {4, 2}, 9: {5, 2}, 11: {5, 3}, 997: {499, 249}, 999: {499, 250}, 1000: {500, 250},
		// Two sides at the wall have the greatest area: 2 and 4, 4 and 6, and so on.
		6: {2, 2}, 10: {4, 3}, 14: {6, 4}, 502: {250, 126}, 998: {498, 250},
	} {
		expect(t, fmt.Sprint("GreatestAtWall ", fence), results(impl.GreatestAtWall(fence)), sides[0], sides[1], true)
	}
}

// TestFieldsByArea has all rectangles, of which the last one has the shortest fence.
func TestFieldsByArea(t *testing.T) {
	for area, rectangles := range map[int][][]int{
		1: {{1, 1}}, 2: {{2, 1}}, 3: {{3, 1}}, 4: {{4, 1}, {2, 2}}, 12: {{12, 1}, {6, 2}, {4, 3}}, 36: {{36, 1}, {18, 2}, {12, 3}, {9, 4}, {6, 6}}, 997: {{997, 1}}, 961: {{961, 1}, {31, 31}}, 992: {{992, 1}, {496, 2}, {248, 4}, {124, 8}, {62, 16}, {32, 31}},
		999: {{999, 1}, {333, 3}, {111, 9}, {37, 27}}, 1000: {{1000, 1}, {500, 2}, {250, 4}, {200, 5}, {125, 8}, {100, 10}, {50, 20}, {40, 25}},
	} {
		expect(t, fmt.Sprint("RectanglesByArea ", area), results(impl.RectanglesByArea(area)), rectangles, true)
		last := rectangles[len(rectangles)-1]
		expect(t, fmt.Sprint("LeastFence ", area), results(impl.LeastFence(area)), last[0], last[1], true)
	}
}

func TestEqualFields(t *testing.T) {
	for most, equal := range map[int][][]int{1: nil, 2: nil, 3: nil, 4: {{4, 4}}, 5: {{4, 4}}, 6: {{4, 4}, {6, 3}}, 7: {{4, 4}, {6, 3}}, 999: {{4, 4}, {6, 3}}, 1000: {{4, 4}, {6, 3}}} {
		expect(t, fmt.Sprint("EqualFields ", most), results(impl.EqualFields(most)), equal, true)
	}
}

func TestFenceOfRow(t *testing.T) {
	for _, c := range []struct{ fields, wide, high, fence int }{
		// The width may be less than the height.
		{1, 1, 1, 4}, {1, 2, 1, 6}, {1, 1, 2, 6}, {2, 1, 1, 7}, {2, 3, 1, 15}, {2, 1, 3, 13}, {3, 4, 2, 32}, {1, 1000, 1000, 4000}, {1, 1000, 1, 2002}, {1, 1, 1000, 2002},
		{100, 1, 1, 301}, {100, 1000, 1, 200101}, {100, 1, 1000, 101200}, {100, 1000, 1000, 301000}, {99, 7, 5, 1886},
	} {
		expect(t, fmt.Sprint("FenceOfRow ", c), results(impl.FenceOfRow(c.fields, c.wide, c.high)), c.fence, true)
	}
}

func TestLeastForFields(t *testing.T) {
	for fields, sides := range map[int][2]int{1: {1, 1}, 2: {1, 2}, 3: {1, 3}, 4: {2, 2}, 5: {1, 5}, 8: {2, 4}, 12: {3, 4}, 18: {3, 6}, 24: {4, 6}, 36: {6, 6}, 96: {8, 12}, 97: {1, 97}, 98: {7, 14}, 99: {9, 11}, 100: {10, 10}} {
		expect(t, fmt.Sprint("LeastForFields ", fields), results(impl.LeastForFields(fields)), sides[0], sides[1], true)
	}
}

// TestLeastForFieldsOnLand counts the fences on land where each square has another owner than those beside it.
func TestLeastForFieldsOnLand(t *testing.T) {
	for fields := 1; fields <= impl.MaxFields; fields++ {
		rows, columns, _ := impl.LeastForFields(fields)
		if columns > impl.MaxAcre {
			continue
		}
		least := first(impl.AllFences(chessLand(columns, rows)))
		for other := 1; other <= impl.MaxAcre; other++ {
			if fields%other == 0 && fields/other <= impl.MaxAcre && first(impl.AllFences(chessLand(fields/other, other))) < least {
				t.Error("LeastForFields", fields, rows, columns, "needs more than", other)
			}
		}
	}
}

func TestSquaresInField(t *testing.T) {
	for _, c := range []struct {
		wide, high int
		sides      []int
	}{
		// Of a field that is a square already nothing is left.
		{1, 1, []int{1}}, {2, 2, []int{2}}, {999, 999, []int{999}}, {1000, 1000, []int{1000}},
		{2, 1, []int{1, 1}}, {3, 2, []int{2, 1, 1}}, {4, 2, []int{2, 2}}, {5, 4, []int{4, 1, 1, 1, 1}}, {7, 5, []int{5, 2, 2, 1, 1}}, {6, 4, []int{4, 2, 2}}, {1000, 500, []int{500, 500}}, {1000, 600, []int{600, 400, 200, 200}}, {987, 610, []int{610, 377, 233, 144, 89, 55, 34, 21, 13, 8, 5, 3, 2, 1, 1}},
		// These take just 200 squares, or one less.
		{200, 1, times(200, 1)}, {1000, 5, times(200, 5)}, {199, 1, times(199, 1)}, {995, 5, times(199, 5)}, {397, 2, append(times(198, 2), 1, 1)}, {199, 198, append([]int{198}, times(198, 1)...)}, {200, 199, append([]int{199}, times(199, 1)...)}, {398, 2, times(199, 2)},
	} {
		expect(t, fmt.Sprint("SquaresInField ", c.wide, c.high), results(impl.SquaresInField(c.wide, c.high)), c.sides, true)
		expect(t, fmt.Sprint("SquaresInField ", c.high, c.wide), results(impl.SquaresInField(c.high, c.wide)), c.sides, true)
	}
	// These take more.
	for _, c := range [][2]int{{201, 1}, {402, 2}, {399, 2}, {201, 200}, {1000, 1}, {1000, 4}, {1000, 999}, {999, 998}, {1000, 3}} {
		expectZero(t, fmt.Sprint("SquaresInField ", c), results(impl.SquaresInField(c[0], c[1])))
		expectZero(t, fmt.Sprint("SquaresInField ", c), results(impl.SquaresInField(c[1], c[0])))
	}
}

func TestCountSquares(t *testing.T) {
	for _, c := range []struct{ wide, high, count int }{{1, 1, 1}, {2, 1, 2}, {2, 2, 5}, {3, 3, 14}, {4, 2, 11}, {8, 8, 204}, {100, 1, 100}, {100, 2, 299}, {100, 99, 333300}, {100, 100, 338350}} {
		expect(t, fmt.Sprint("CountSquares ", c), results(impl.CountSquares(c.wide, c.high)), c.count, true)
		expect(t, fmt.Sprint("CountSquares ", c), results(impl.CountSquares(c.high, c.wide)), c.count, true)
	}
}

func TestIsLand(t *testing.T) {
	for _, land := range [][]string{{"."}, {"a"}, {"e"}, {".."}, {".", "."}, {"abcde."}, {"ab", "cd"}, {"ab", "ab", "ab"}, exampleLand(), mostRows, mostColumns, mostLand, nobodysLand, mostLand[:11], chessLand(12, 12), chessLand(1, 12), chessLand(12, 1), chessLand(11, 12)} {
		expect(t, fmt.Sprint("IsLand ", land), results(impl.IsLand(land)), true)
	}
	for _, land := range noLands() {
		expect(t, fmt.Sprintf("IsLand %.200q", land), results(impl.IsLand(land)), false)
	}
}

// plot is what is told of the field of one owner.
type plot struct {
	owner        string
	area, around int
	parts        []int
	neighbours   string
}

// TestFields tells nothing of owners who have no square, and no neighbour.
func TestFields(t *testing.T) {
	inRow := []plot{{"a", 3, 10, []int{2, 1}, "b"}, {"b", 2, 8, []int{1, 1}, "ac"}, {"c", 3, 10, []int{2, 1}, "bd"}, {"d", 1, 4, []int{1}, "ce"}, {"e", 1, 4, []int{1}, "d"}}
	for _, c := range []struct {
		land  []string
		all   int
		plots []plot
	}{
		// Land of nobody, and of one square.
		{[]string{"."}, 0, nil}, {[]string{"......"}, 0, nil}, {[]string{"..", ".."}, 0, nil}, {nobodysLand, 0, nil},
		{[]string{"a"}, 4, []plot{{"a", 1, 4, []int{1}, ""}}}, {[]string{"e"}, 4, []plot{{"e", 1, 4, []int{1}, ""}}},
		// As many rows as there may be, as many columns, and both.
		{mostRows, 30, inRow}, {mostColumns, 30, inRow}, {mostLand, 48, []plot{{"a", 144, 48, []int{144}, ""}}},
		{chessLand(12, 12), 312, []plot{{"a", 72, 288, times(72, 1), "b"}, {"b", 72, 288, times(72, 1), "a"}}},
		// At an edge, at two of them, and at none.
		{[]string{".a.", "...", "..."}, 4, []plot{{"a", 1, 4, []int{1}, ""}}}, {[]string{"...", "...", "..a"}, 4, []plot{{"a", 1, 4, []int{1}, ""}}}, {[]string{"...", ".a.", "..."}, 4, []plot{{"a", 1, 4, []int{1}, ""}}},
		{[]string{"aa.", "aa.", "..."}, 8, []plot{{"a", 4, 8, []int{4}, ""}}}, {[]string{"...", "ccc", "..."}, 8, []plot{{"c", 3, 8, []int{3}, ""}}}, {[]string{"..d", "..d", "..d"}, 8, []plot{{"d", 3, 8, []int{3}, ""}}},
		// In several parts, some of which are equally great.
		{[]string{"a.a"}, 8, []plot{{"a", 2, 8, []int{1, 1}, ""}}}, {[]string{"a.aa.a"}, 14, []plot{{"a", 4, 14, []int{2, 1, 1}, ""}}}, {[]string{"a.aa", "a..a", "....", "a.aa"}, 24, []plot{{"a", 8, 24, []int{3, 2, 2, 1}, ""}}},
		{[]string{"abbaaacaa"}, 24, []plot{{"a", 6, 18, []int{3, 2, 1}, "bc"}, {"b", 2, 6, []int{2}, "a"}, {"c", 1, 4, []int{1}, "a"}}},
		{[]string{"aba", "bab"}, 17, []plot{{"a", 3, 12, []int{1, 1, 1}, "b"}, {"b", 3, 12, []int{1, 1, 1}, "a"}}},
		// Long ways lead through one part.
		{[]string{"aaa", "..a", "aaa"}, 16, []plot{{"a", 7, 16, []int{7}, ""}}}, {[]string{"a.aaa", "a.a.a", "aaa.a"}, 24, []plot{{"a", 11, 24, []int{11}, ""}}},
		// One inside another one, and around nobody's squares.
		{[]string{"aaa", "aba", "aaa"}, 16, []plot{{"a", 8, 16, []int{8}, "b"}, {"b", 1, 4, []int{1}, "a"}}}, {[]string{"aaaa", "a..a", "aaaa"}, 20, []plot{{"a", 10, 20, []int{10}, ""}}},
		{[]string{"aaaaa", "abbba", "abcba", "abbba", "aaaaa"}, 36, []plot{{"a", 16, 32, []int{16}, "b"}, {"b", 8, 16, []int{8}, "ac"}, {"c", 1, 4, []int{1}, "b"}}},
		// Squares that touch at a corner only are not beside each other.
		{[]string{"a.", ".a"}, 8, []plot{{"a", 2, 8, []int{1, 1}, ""}}}, {[]string{"ab", "ba"}, 12, []plot{{"a", 2, 8, []int{1, 1}, "b"}, {"b", 2, 8, []int{1, 1}, "a"}}}, {[]string{"aa.", "aa.", "..b"}, 12, []plot{{"a", 4, 8, []int{4}, ""}, {"b", 1, 4, []int{1}, ""}}},
		{[]string{"a.b", ".c.", "d.e"}, 20, []plot{{"a", 1, 4, []int{1}, ""}, {"b", 1, 4, []int{1}, ""}, {"c", 1, 4, []int{1}, ""}, {"d", 1, 4, []int{1}, ""}, {"e", 1, 4, []int{1}, ""}}},
		// Nobody is no neighbour; the others may be all.
		{[]string{"a.b"}, 8, []plot{{"a", 1, 4, []int{1}, ""}, {"b", 1, 4, []int{1}, ""}}}, {[]string{".b.", "cad", ".e."}, 16, []plot{{"a", 1, 4, []int{1}, "bcde"}, {"b", 1, 4, []int{1}, "a"}, {"c", 1, 4, []int{1}, "a"}, {"d", 1, 4, []int{1}, "a"}, {"e", 1, 4, []int{1}, "a"}}},
		{[]string{"deb", ".e.", "aec"}, 20, []plot{{"a", 1, 4, []int{1}, "e"}, {"b", 1, 4, []int{1}, "e"}, {"c", 1, 4, []int{1}, "e"}, {"d", 1, 4, []int{1}, "e"}, {"e", 3, 8, []int{3}, "abcd"}}},
	} {
		expect(t, fmt.Sprint("AllFences ", c.land), results(impl.AllFences(c.land)), c.all, true)
		for _, letter := range "abcde" {
			owner := string(letter)
			want := plot{}
			if i := slices.IndexFunc(c.plots, func(p plot) bool { return p.owner == owner }); i >= 0 {
				want = c.plots[i]
			}
			name := fmt.Sprint(" ", c.land, owner)
			expect(t, "AreaOf"+name, results(impl.AreaOf(c.land, owner)), want.area, true)
			expect(t, "FenceAround"+name, results(impl.FenceAround(c.land, owner)), want.around, true)
			expect(t, "PartsOfField"+name, results(impl.PartsOfField(c.land, owner)), want.parts, true)
			expect(t, "NeighboursOf"+name, results(impl.NeighboursOf(c.land, owner)), want.neighbours, true)
		}
	}
}

func TestFenceBetween(t *testing.T) {
	for _, c := range []struct {
		land  []string
		a, b  string
		fence int
	}{
		{[]string{"ab"}, "a", "b", 1}, {[]string{"a", "e"}, "a", "e", 1}, {exampleLand(), "a", "b", 1}, {chessLand(12, 12), "a", "b", 264}, {mostRows, "a", "b", 2}, {mostRows, "b", "c", 2}, {mostColumns, "c", "d", 1}, {mostColumns, "d", "e", 1}, {[]string{"aba", "bab"}, "a", "b", 7},
		{[]string{"aaa", "aba", "aaa"}, "a", "b", 4}, {[]string{"aaaaa", "abbba", "abcba", "abbba", "aaaaa"}, "a", "b", 12}, {[]string{"aaa", "bbb"}, "a", "b", 3}, {[]string{"aaa", ".b.", "aaa"}, "a", "b", 2}, {[]string{"ccd", "cdd"}, "c", "d", 3},
		// None with nobody between them, at a corner only, with others between them, and without squares.
		{[]string{"a.b"}, "a", "b", 0}, {[]string{"a.", ".b"}, "a", "b", 0}, {[]string{"abc"}, "a", "c", 0}, {mostRows, "a", "c", 0}, {mostRows, "e", "a", 0}, {exampleLand(), "a", "c", 0}, {exampleLand(), "d", "e", 0}, {nobodysLand, "a", "b", 0}, {mostLand, "a", "b", 0}, {[]string{"."}, "c", "d", 0}, {[]string{"aaaaa", "abbba", "abcba", "abbba", "aaaaa"}, "a", "c", 0},
	} {
		name := fmt.Sprint("FenceBetween ", c)
		expect(t, name, results(impl.FenceBetween(c.land, c.a, c.b)), c.fence, true)
		expect(t, name, results(impl.FenceBetween(c.land, c.b, c.a)), c.fence, true)
	}
}

func TestFewestGatesOver(t *testing.T) {
	rings := []string{"aaaaa", "abbba", "abcba", "abbba", "aaaaa"}
	for _, c := range []struct {
		land           []string
		x, y, toX, toY int
		gates          int
	}{
		// From a place to the same one, and within a part.
		{[]string{"."}, 0, 0, 0, 0, 0}, {[]string{"a"}, 0, 0, 0, 0, 0}, {exampleLand(), 2, 1, 2, 1, 0}, {exampleLand(), 1, 1, 1, 1, 0}, {rings, 2, 2, 2, 2, 0}, {mostLand, 0, 0, 11, 11, 0}, {nobodysLand, 11, 0, 0, 11, 0}, {[]string{"a.aaa", "a.a.a", "aaa.a"}, 0, 0, 4, 2, 0}, {exampleLand(), 0, 1, 1, 0, 0},
		// Over land of nobody, whose squares have no fence between them, and to it.
		{[]string{"..."}, 0, 0, 2, 0, 0}, {[]string{"a.b"}, 0, 0, 2, 0, 2}, {[]string{"a....b"}, 0, 0, 5, 0, 2}, {[]string{".a."}, 0, 0, 2, 0, 2}, {exampleLand(), 0, 0, 1, 1, 1}, {exampleLand(), 2, 0, 1, 1, 1}, {[]string{"abca", "...."}, 0, 0, 3, 0, 2}, {[]string{"a.bcd", "a...d"}, 0, 0, 4, 1, 2},
		// By more steps there are fewer fences.
		{[]string{"aaa", "aba", "aaa"}, 0, 1, 2, 1, 0}, {[]string{"abcda", "aaaaa"}, 0, 0, 4, 0, 0}, {[]string{"abcde", "aaaaa", ".bcd.", "aaaaa"}, 0, 0, 4, 0, 1}, {[]string{"abacbd", "abbbbd"}, 0, 0, 5, 0, 2}, {[]string{"a.aaa", "a.a.a", "aaa.a"}, 4, 2, 1, 0, 1}, {[]string{"abdb", "a..b"}, 0, 0, 3, 0, 2}, {[]string{"ababac", "a....c"}, 0, 0, 5, 0, 2},
		// Outside the land there is no way, and none across a corner.
		{[]string{"bab"}, 0, 0, 2, 0, 2}, {[]string{"abab"}, 0, 0, 3, 0, 3}, {[]string{"ab", "ba"}, 0, 0, 1, 1, 2}, {[]string{"a.", ".a"}, 0, 0, 1, 1, 2}, {[]string{"ab", "cd"}, 1, 0, 0, 1, 2}, {rings, 0, 0, 2, 2, 2}, {rings, 0, 4, 1, 3, 1}, {mostRows, 0, 0, 0, 11, 8}, {mostColumns, 0, 0, 11, 0, 8}, {mostColumns, 5, 0, 6, 0, 0},
		{chessLand(12, 12), 0, 0, 11, 11, 22}, {chessLand(12, 12), 11, 0, 0, 0, 11}, {chessLand(12, 12), 3, 4, 4, 3, 2}, {exampleLand(), 0, 0, 2, 0, 1},
	} {
		name := fmt.Sprint("FewestGatesOver ", c)
		expect(t, name, results(impl.FewestGatesOver(c.land, []int{c.x, c.y}, []int{c.toX, c.toY})), c.gates, true)
		expect(t, name, results(impl.FewestGatesOver(c.land, []int{c.toX, c.toY}, []int{c.x, c.y})), c.gates, true)
	}
}

func TestPlantSquare(t *testing.T) {
	for _, c := range []struct {
		land    []string
		x, y    int
		owner   string
		planted []string
	}{
		{exampleLand(), 1, 1, "b", []string{"aab", "abb"}}, {exampleLand(), 2, 0, "c", []string{"aac", "a.b"}}, {exampleLand(), 0, 1, "e", []string{"aab", "e.b"}}, {[]string{"."}, 0, 0, "d", []string{"d"}}, {[]string{"ab"}, 1, 0, "a", []string{"aa"}}, {[]string{"a", "b"}, 0, 1, "a", []string{"a", "a"}},
		// The owner is the same, nobody too.
		{exampleLand(), 0, 0, "a", exampleLand()}, {exampleLand(), 2, 1, "b", exampleLand()}, {exampleLand(), 1, 1, ".", exampleLand()}, {mostLand, 5, 5, "a", mostLand}, {nobodysLand, 0, 11, ".", nobodysLand},
		// A square is made nobody's.
		{exampleLand(), 0, 0, ".", []string{".ab", "a.b"}}, {exampleLand(), 2, 1, ".", []string{"aab", "a.."}}, {[]string{"e"}, 0, 0, ".", []string{"."}},
		{mostLand, 11, 11, "b", append(slices.Clone(mostLand[:11]), "aaaaaaaaaaab")}, {mostLand, 11, 0, ".", append([]string{"aaaaaaaaaaa."}, mostLand[1:]...)},
	} {
		expect(t, fmt.Sprint("PlantSquare ", c), results(impl.PlantSquare(c.land, c.x, c.y, c.owner)), c.planted, true)
	}
}

// TestTurnLand turns on until the land is the same again.
func TestTurnLand(t *testing.T) {
	for _, turns := range [][][]string{
		{{"."}, {"."}, {"."}, {"."}}, {{"e"}, {"e"}, {"e"}, {"e"}}, {{"ab"}, {"a", "b"}, {"ba"}, {"b", "a"}}, {{"ab", "cd"}, {"ca", "db"}, {"dc", "ba"}, {"bd", "ac"}}, {{"ab.", "cde"}, {"ca", "db", "e."}, {"edc", ".ba"}, {".e", "bd", "ac"}},
		{exampleLand(), {"aa", ".a", "bb"}, {"b.a", "baa"}, {"bb", "a.", "aa"}}, {mostColumns, mostRows, {"ccbaa..edcba"}, {"c", "c", "b", "a", "a", ".", ".", "e", "d", "c", "b", "a"}}, {mostLand, mostLand, mostLand, mostLand}, {{"aa", "a."}, {"aa", ".a"}, {".a", "aa"}, {"a.", "aa"}},
	} {
		for i, land := range turns {
			expect(t, fmt.Sprint("TurnLand ", land), results(impl.TurnLand(land)), turns[(i+1)%4], true)
		}
	}
}

func TestLandTexts(t *testing.T) {
	for text, land := range map[string][]string{
		".": {"."}, "a": {"a"}, "abcde.": {"abcde."}, "abcde..aabcc": mostColumns, "a/b": {"a", "b"}, "./.": {".", "."}, "aab/a.b": exampleLand(), "a/b/c/d/e/././a/a/b/c/c": mostRows, "ab/cd/e.": {"ab", "cd", "e."}, strings.Repeat("aaaaaaaaaaaa/", 11) + "aaaaaaaaaaaa": mostLand,
	} {
		expect(t, "LandText "+text, results(impl.LandText(land)), text, true)
		expect(t, "ParseLand "+text, results(impl.ParseLand(text)), land, true)
	}
	for _, text := range noLandTexts() {
		expectZero(t, fmt.Sprintf("ParseLand %.200q", text), results(impl.ParseLand(text)))
	}
}
