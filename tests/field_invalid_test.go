package tests

import (
	"fmt"
	"math"
	"math/rand"
	"slices"
	"strings"
	"testing"

	"loop.example/g01373/impl"
)

// Promise 11 for chapter 8.

// noSides are no sides, no fences and no areas.
func noSides() []int {
	far := slices.DeleteFunc(farNumbers(), func(number int) bool { return number == impl.MaxSide })
	return append(far, 0, impl.MaxSide+1, 1<<32+1, -impl.MaxSide-1)
}

// noManyFields are no numbers of fields.
func noManyFields() []int {
	return append(farNumbers(), 0, impl.MaxFields+1, 1<<32+1)
}

// noRowsOfLand are texts of one square less, or with other letters, so that they are none in any land.
func noRowsOfLand() []string {
	return []string{"", "f", "A", "E", " ", "`", "-", "/", "|", "?", "0", "\x00", "\n", "\xff", "\xe1", "a b", "ab\n", "\nab", "a/b", "abf", "fab", "aFb", "ab,", "é", "abé", "éab", "ａ", "․", "…", strings.Repeat("a", impl.MaxAcre+1), strings.Repeat(".", impl.MaxAcre+1), strings.Repeat("a", impl.MaxAcre-1) + "f", strings.Repeat("ab", 3000)}
}

// noLands are lists of texts that are no land.
func noLands() [][]string {
	lists := [][]string{
		nil, {}, {"", ""}, make([]string, impl.MaxAcre), make([]string, impl.MaxAcre+1), make([]string, 5000), slices.Repeat([]string{"a"}, impl.MaxAcre+1), slices.Repeat([]string{"a"}, 5000), append(slices.Clone(mostLand), mostLand[0]), append(slices.Clone(mostRows), "a"), append(slices.Clone(nobodysLand), ""),
		// Rows of different lengths.
		{"a", ""}, {"", "a"}, {"a", "ab"}, {"ab", "a"}, {"aab", "a.b", "a."}, {"aab", "a.", "a.b"}, {"aab", "a.b", "a.b."}, {"aab", "a.b", ""}, append(slices.Clone(mostLand[1:]), "aaaaaaaaaaa"), append(slices.Clone(mostLand[1:]), "aaaaaaaaaaaaa"), append([]string{"aaaaaaaaaaa"}, mostLand[1:]...), slices.Repeat([]string{"aaaaaaaaaaaaa"}, impl.MaxAcre),
		// Other letters behind rows of the same length.
		{"ab", "af"}, {"ab", "é"}, {"aab", "a.f", "aab"}, {"aab", "a.b", "A.b"}, {"aab", "a b"}, append(slices.Clone(mostLand[1:]), "aaaaaaaaaaaf"), append([]string{"faaaaaaaaaaa"}, mostLand[1:]...),
	}
	for _, row := range noRowsOfLand() {
		lists = append(lists, []string{row}, []string{row, row}, []string{row, "aab"}, []string{"aab", row}, []string{"aab", row, "a.b"})
	}
	return lists
}

// noOwners are texts that are no owners; nobody is not among them.
func noOwners() []string {
	return []string{"", "f", "A", "E", "aa", "ab", "bc", "abcde", "..", ".a", "a.", "a ", " a", " ", "a\n", "`", "/", "-", "0", "?", "\x00", "a\x00", "\xff", "é", "á", "ａ", "․", strings.Repeat("a", 5000)}
}

// noPlacesOn are lists that are no places on land.
func noPlacesOn(land []string) [][]int {
	wide, high := len(land[0]), len(land)
	places := [][]int{nil, {}, {0}, {wide - 1}, {0, 0, 0}, {0, 0, wide}, {-1, 0}, {0, -1}, {-1, -1}, {wide, 0}, {0, high}, {wide, high}, {wide, high - 1}, {wide - 1, high}, {wide, -1}, {-1, high}, {-wide, 0}, {0, -high}, make([]int, 5000)}
	for _, far := range farNumbers() {
		places = append(places, []int{far, 0}, []int{0, far}, []int{far, far}, []int{far}, []int{0, 0, far})
	}
	return append(places, []int{math.MinInt, math.MaxInt}, []int{math.MaxInt, math.MinInt}, []int{1 << 32, 0}, []int{0, 1 << 32})
}

// noLandTexts are those of other lists, and some with other things between rows.
func noLandTexts() []string {
	texts := []string{"/", "//", "a/", "/a", "a//b", "/aab/a.b", "aab/a.b/", "aab//a.b", "aab/a.b ", " aab/a.b", "aab /a.b", "aab/ a.b", "aab\\a.b", "aab|a.b", "aab-a.b", "aab,a.b", "aab\na.b", "aab/a.b\n", "aab⁄a.b", "aab／a.b", strings.Repeat("/", impl.MaxAcre-1), strings.Repeat("a/", impl.MaxAcre) + "a", strings.Repeat("a/", impl.MaxAcre), strings.Repeat("/", 10000), strings.Repeat("a/", 10000) + "a", strings.Repeat("ab/", impl.MaxAcre-1) + "a", strings.Repeat("ab/", impl.MaxAcre-1) + "ab/"}
	for _, land := range noLands() {
		// A list may be none where a text of its rows is one of others.
		if text := strings.Join(land, "/"); !plainIsLand(strings.Split(text, "/")) {
			texts = append(texts, text)
		}
	}
	return texts
}

// sideCalls are all functions of one number.
func sideCalls(number int) map[string][]any {
	return map[string][]any{
		"RectanglesByFence": results(impl.RectanglesByFence(number)),
		"GreatestArea":      results(impl.GreatestArea(number)),
		"GreatestAtWall":    results(impl.GreatestAtWall(number)),
		"RectanglesByArea":  results(impl.RectanglesByArea(number)),
		"LeastFence":        results(impl.LeastFence(number)),
		"EqualFields":       results(impl.EqualFields(number)),
		"LeastForFields":    results(impl.LeastForFields(number)),
	}
}

// sizeOfFieldCalls are all functions of a field's sides.
func sizeOfFieldCalls(fields int, wide int, high int) map[string][]any {
	return map[string][]any{
		"FenceOfRow":     results(impl.FenceOfRow(fields, wide, high)),
		"SquaresInField": results(impl.SquaresInField(wide, high)),
		"CountSquares":   results(impl.CountSquares(wide, high)),
	}
}

// landCalls are all functions of land alone.
func landCalls(land []string) map[string][]any {
	return map[string][]any{
		"AllFences": results(impl.AllFences(land)),
		"TurnLand":  results(impl.TurnLand(land)),
		"LandText":  results(impl.LandText(land)),
	}
}

// ownerCalls are all functions of land and one owner.
func ownerCalls(land []string, owner string) map[string][]any {
	return map[string][]any{
		"AreaOf":       results(impl.AreaOf(land, owner)),
		"FenceAround":  results(impl.FenceAround(land, owner)),
		"PartsOfField": results(impl.PartsOfField(land, owner)),
		"NeighboursOf": results(impl.NeighboursOf(land, owner)),
	}
}

// allLandCalls are all functions with land as an argument; a place of another length than two is not one to be planted.
func allLandCalls(land []string, owner string, other string, a []int, b []int) []map[string][]any {
	x, y := -1, -1
	if len(a) == 2 {
		x, y = a[0], a[1]
	}
	return []map[string][]any{
		landCalls(land), ownerCalls(land, owner), {
			"IsLand":          results(impl.IsLand(land)),
			"FenceBetween":    results(impl.FenceBetween(land, owner, other)),
			"FewestGatesOver": results(impl.FewestGatesOver(land, a, b)),
			"PlantSquare":     results(impl.PlantSquare(land, x, y, owner)),
		},
	}
}

func TestInvalidSides(t *testing.T) {
	for _, number := range noSides() {
		expectAllZero(t, fmt.Sprint(number), sideCalls(number))
		for _, fine := range []int{1, 2, 7, impl.MaxSide, number} {
			for _, fields := range []int{1, 3, impl.MaxFields} {
				expectAllZero(t, fmt.Sprint(number, fine), sizeOfFieldCalls(fields, number, fine))
				expectAllZero(t, fmt.Sprint(fine, number), sizeOfFieldCalls(fields, fine, number))
			}
		}
	}
	// Fences are not so short.
	for _, short := range []int{1, 2, 3} {
		expectZero(t, fmt.Sprint("RectanglesByFence ", short), results(impl.RectanglesByFence(short)))
		expectZero(t, fmt.Sprint("GreatestArea ", short), results(impl.GreatestArea(short)))
	}
	for _, short := range []int{1, 2} {
		expectZero(t, fmt.Sprint("GreatestAtWall ", short), results(impl.GreatestAtWall(short)))
	}
}

func TestInvalidFields(t *testing.T) {
	for _, many := range noManyFields() {
		name := fmt.Sprint(many)
		expectZero(t, "LeastForFields "+name, results(impl.LeastForFields(many)))
		for _, fine := range []int{1, 2, 7, impl.MaxFields, many} {
			expectZero(t, "FenceOfRow "+name, results(impl.FenceOfRow(many, fine, 1)))
			expectZero(t, "FenceOfRow "+name, results(impl.FenceOfRow(many, 1, fine)))
			expectZero(t, "CountSquares "+name, results(impl.CountSquares(many, fine)))
			expectZero(t, "CountSquares "+name, results(impl.CountSquares(fine, many)))
		}
	}
}

func TestInvalidLand(t *testing.T) {
	for _, land := range noLands() {
		name := fmt.Sprintf("%.200q", land)
		for _, owner := range []string{"a", "b", ".", "", "f"} {
			for _, place := range [][]int{{0, 0}, {0, 1}, {1, 0}, {-1, 0}, {len(land), len(land)}, nil} {
				for _, calls := range allLandCalls(land, owner, "e", place, []int{0, 0}) {
					expectAllZero(t, name, calls)
				}
				expectZero(t, "FewestGatesOver "+name, results(impl.FewestGatesOver(land, []int{0, 0}, place)))
			}
		}
	}
}

func TestInvalidOwners(t *testing.T) {
	for _, land := range [][]string{{"."}, {"a"}, exampleLand(), mostLand, mostColumns} {
		for _, owner := range append(noOwners(), ".") {
			name := fmt.Sprintf("%q %.50q", land, owner)
			expectAllZero(t, name, ownerCalls(land, owner))
			for _, other := range []string{"a", "b", "e", ".", owner} {
				expectZero(t, "FenceBetween "+name, results(impl.FenceBetween(land, owner, other)))
				expectZero(t, "FenceBetween "+name, results(impl.FenceBetween(land, other, owner)))
			}
		}
		for _, owner := range noOwners() {
			expectZero(t, fmt.Sprintf("PlantSquare %q %.50q", land, owner), results(impl.PlantSquare(land, 0, 0, owner)))
		}
		// They have to be different ones.
		for _, letter := range "abcde" {
			expectZero(t, "FenceBetween "+string(letter), results(impl.FenceBetween(land, string(letter), string(letter))))
		}
	}
}

func TestInvalidPlaces(t *testing.T) {
	for _, land := range [][]string{{"."}, {"a"}, exampleLand(), {"aa", ".a", "bb"}, mostLand, mostRows, mostColumns} {
		for _, place := range noPlacesOn(land) {
			name := fmt.Sprint(land, place[:min(len(place), 10)])
			for _, other := range [][]int{{0, 0}, {len(land[0]) - 1, len(land) - 1}, place} {
				expectZero(t, "FewestGatesOver "+name, results(impl.FewestGatesOver(land, place, other)))
				expectZero(t, "FewestGatesOver "+name, results(impl.FewestGatesOver(land, other, place)))
			}
			for i := range landLetters {
				if len(place) == 2 {
					expectZero(t, "PlantSquare "+name, results(impl.PlantSquare(land, place[0], place[1], landLetters[i:i+1])))
				}
			}
		}
	}
}

// TestFieldArgumentsStay looks at the elements of lists, and at what is behind them.
func TestFieldArgumentsStay(t *testing.T) {
	r := rand.New(rand.NewSource(84))
	for range 200 {
		land := randomLand(r)
		many := len(land)
		room := append(land, "zz", strings.Repeat("a", len(land[0])))
		a, b := append(randomPlace(r, land), 77)[:2], append(randomPlace(r, land), 77)[:2]
		before, told := slices.Clone(room), fmt.Sprint(a[:3], b[:3])
		owner, other := landLetters[1:][r.Intn(5):][:1], landLetters[1:][r.Intn(5):][:1]
		got := allLandCalls(room[:many], owner, other, a, b)
		if !slices.Equal(room, before) || fmt.Sprint(a[:3], b[:3]) != told {
			t.Fatal("an argument is changed")
		}
		want := allLandCalls(slices.Clip(slices.Clone(room[:many])), owner, other, slices.Clip(slices.Clone(a)), slices.Clip(slices.Clone(b)))
		for i, calls := range got {
			for name, call := range calls {
				expect(t, name, call, want[i][name]...)
			}
		}
	}
}

// TestFieldResultsAreNew spoils the results of a call: neither its arguments nor the next call's results may show it.
func TestFieldResultsAreNew(t *testing.T) {
	land, a, b := exampleLand(), []int{0, 0}, []int{2, 1}
	row := []string{"ab."}
	again := func() []map[string][]any {
		calls := append(allLandCalls(land, "a", "b", a, b), allLandCalls(row, "a", "b", a, a)...)
		return append(calls, sideCalls(10), sideCalls(12), sizeOfFieldCalls(3, 5, 3), map[string][]any{
			"ParseLand":   results(impl.ParseLand("aab/a.b")),
			"PlantSquare": results(impl.PlantSquare(land, 0, 0, "a")),
		})
	}
	expectNew(t, [][]int{a, b}, again)
	if !slices.Equal(land, exampleLand()) || !slices.Equal(row, []string{"ab."}) {
		t.Error("land shares memory with a result")
	}
}

func TestRectanglesApart(t *testing.T) {
	expectApart(t, map[string]func() ([][]int, bool){
		"RectanglesByFence": func() ([][]int, bool) { return impl.RectanglesByFence(100) },
		"RectanglesByArea":  func() ([][]int, bool) { return impl.RectanglesByArea(720) },
		"EqualFields":       func() ([][]int, bool) { return impl.EqualFields(impl.MaxSide) },
	})
}

// TestAnyFieldArguments calls all functions with whatever comes: they return, with zero values where they fail.
func TestAnyFieldArguments(t *testing.T) {
	r := rand.New(rand.NewSource(85))
	numbers := append(farNumbers(), 0, 1, 2, 3, 4, 5, 6, 10, 11, 12, 13, 99, 100, 101, 998, 999, 1001)
	owners := append(noOwners(), ".", "a", "b", "c", "d", "e", "a", "b")
	lands, texts := noLands(), append(noLandTexts(), ".", "a", "aab/a.b", strings.Join(mostLand, "/"))
	number := func() int { return numbers[r.Intn(len(numbers))] }
	owner := func() string { return owners[r.Intn(len(owners))] }
	for range 3000 {
		land := lands[r.Intn(len(lands))]
		if r.Intn(4) > 0 {
			land = randomLand(r)
		}
		place := func() []int { return anyList(r, 2, 5, numbers) }
		calls := append(allLandCalls(land, owner(), owner(), place(), place()), sideCalls(number()), sizeOfFieldCalls(number(), number(), number()), map[string][]any{
			"PlantSquare": results(impl.PlantSquare(land, number(), number(), owner())),
			"ParseLand":   results(impl.ParseLand(texts[r.Intn(len(texts))])),
		})
		expectZeroIfFailed(t, calls)
	}
}
