package tests

import (
	"fmt"
	"math/rand"
	"slices"
	"strings"
	"testing"

	"loop.example/g01373/impl"
)

// TestAllFieldFences goes through all fences that there may be.
func TestAllFieldFences(t *testing.T) {
	for fence := 3; fence <= impl.MaxSide; fence++ {
		name := fmt.Sprint(" ", fence)
		atWall, other := plainAtWall(fence)
		expect(t, "GreatestAtWall"+name, results(impl.GreatestAtWall(fence)), atWall, other, true)
		if fence == 3 {
			continue
		}
		rectangles := plainByFence(fence)
		expect(t, "RectanglesByFence"+name, results(impl.RectanglesByFence(fence)), rectangles, true)
		greatest := plainBestOf(rectangles, func(width int, height int) int { return width * height })
		if greatest == nil {
			expectZero(t, "GreatestArea"+name, results(impl.GreatestArea(fence)))
			continue
		}
		expect(t, "GreatestArea"+name, results(impl.GreatestArea(fence)), greatest[0], greatest[1], true)
	}
}

// TestAllFieldAreas goes through all areas that there may be, and sides as great.
func TestAllFieldAreas(t *testing.T) {
	equal := plainEqual()
	for area := 1; area <= impl.MaxSide; area++ {
		name := fmt.Sprint(" ", area)
		rectangles := plainByArea(area)
		expect(t, "RectanglesByArea"+name, results(impl.RectanglesByArea(area)), rectangles, true)
		least := plainBestOf(rectangles, func(width int, height int) int { return -width - height })
		expect(t, "LeastFence"+name, results(impl.LeastFence(area)), least[0], least[1], true)
		isTooWide := func(sides []int) bool { return sides[0] > area }
		expect(t, "EqualFields"+name, results(impl.EqualFields(area)), slices.DeleteFunc(slices.Clone(equal), isTooWide), true)
	}
}

func TestAllNumbersOfFields(t *testing.T) {
	for fields := 1; fields <= impl.MaxFields; fields++ {
		rows, columns := plainForFields(fields)
		expect(t, fmt.Sprint("LeastForFields ", fields), results(impl.LeastForFields(fields)), rows, columns, true)
		for _, wide := range []int{1, 2, 3, 50, 999, 1000} {
			for _, high := range []int{1, 2, 5, 77, 1000} {
				expect(t, fmt.Sprint("FenceOfRow ", fields, wide, high), results(impl.FenceOfRow(fields, wide, high)), plainRow(fields, wide, high), true)
			}
		}
		for high := 1; high <= impl.MaxFields; high++ {
			expect(t, fmt.Sprint("CountSquares ", fields, high), results(impl.CountSquares(fields, high)), plainCount(fields, high), true)
		}
	}
}

// checkSquares compares the squares of a field, and looks whether they have its area.
func checkSquares(t *testing.T, wide int, high int) {
	t.Helper()
	name := fmt.Sprint("SquaresInField ", wide, high)
	want := plainSquares(wide, high)
	if len(want) > 200 {
		expectZero(t, name, results(impl.SquaresInField(wide, high)))
		return
	}
	sides, ok := impl.SquaresInField(wide, high)
	area := 0
	for _, side := range sides {
		area += side * side
	}
	if !ok || !slices.Equal(sides, want) || area != wide*high {
		t.Error(name, sides, ok, "want", want)
	}
}

func TestAllSquaresInFields(t *testing.T) {
	for wide := 1; wide <= 220; wide++ {
		for high := 1; high <= 220; high++ {
			checkSquares(t, wide, high)
		}
	}
	for side := 1; side <= impl.MaxSide; side++ {
		checkSquares(t, side, impl.MaxSide)
		checkSquares(t, impl.MaxSide-1, side)
		checkSquares(t, side, side)
	}
	r := rand.New(rand.NewSource(81))
	for range 3000 {
		checkSquares(t, 1+r.Intn(impl.MaxSide), 1+r.Intn(impl.MaxSide))
	}
}

// checkFields compares what is told of the fields of all owners.
func checkFields(t *testing.T, land []string) {
	t.Helper()
	fences, text := plainFences(land), strings.Join(land, "/")
	expect(t, "IsLand "+text, results(impl.IsLand(land)), true)
	expect(t, "AllFences "+text, results(impl.AllFences(land)), len(fences), true)
	for _, letter := range "abcde" {
		owner := string(letter)
		name := " " + owner + " " + text
		expect(t, "AreaOf"+name, results(impl.AreaOf(land, owner)), strings.Count(text, owner), true)
		expect(t, "FenceAround"+name, results(impl.FenceAround(land, owner)), countBeside(fences, owner), true)
		expect(t, "PartsOfField"+name, results(impl.PartsOfField(land, owner)), plainPartAreas(land, owner), true)
		expect(t, "NeighboursOf"+name, results(impl.NeighboursOf(land, owner)), plainNeighbours(fences, owner), true)
		for _, other := range "abcde" {
			if other != letter {
				expect(t, "FenceBetween"+name+string(other), results(impl.FenceBetween(land, owner, string(other))), countBeside(fences, owner, string(other)), true)
			}
		}
	}
}

// checkChangedLand compares the land planted at a place, turned and as a text.
func checkChangedLand(t *testing.T, land []string, x int, y int) {
	t.Helper()
	text := strings.Join(land, "/")
	for i := range len(landLetters) {
		owner := landLetters[i : i+1]
		// All rows and what is behind them are of one length.
		at := y*(len(land[0])+1) + x
		planted := strings.Split(text[:at]+owner+text[at+1:], "/")
		expect(t, fmt.Sprint("PlantSquare ", text, x, y, owner), results(impl.PlantSquare(land, x, y, owner)), planted, true)
	}
	expect(t, "TurnLand "+text, results(impl.TurnLand(land)), plainTurnedLand(land), true)
	expect(t, "LandText "+text, results(impl.LandText(land)), text, true)
	expect(t, "ParseLand "+text, results(impl.ParseLand(text)), land, true)
}

// checkGatesOver compares the ways from one place to all places.
func checkGatesOver(t *testing.T, land []string, from [2]int) {
	t.Helper()
	for to, gates := range plainGatesFrom(land, from) {
		expect(t, fmt.Sprint("FewestGatesOver ", land, from, to), results(impl.FewestGatesOver(land, from[:], to[:])), gates, true)
	}
}

// checkFencesAddUp looks for fences that are counted twice, or not at all.
func checkFencesAddUp(t *testing.T, land []string) {
	t.Helper()
	all := first(impl.AllFences(land))
	around, shared, area := 0, 0, 0
	for i, a := range "abcde" {
		around += first(impl.FenceAround(land, string(a)))
		area += first(impl.AreaOf(land, string(a)))
		parts, _ := impl.PartsOfField(land, string(a))
		area -= sum(parts)
		for _, b := range "abcde"[:i] {
			shared += first(impl.FenceBetween(land, string(a), string(b)))
		}
	}
	if around-shared != all || area != 0 {
		t.Error("fences or areas do not add up", land, all, around, shared, area)
	}
}

// allLands returns all lands of one size with some letters.
func allLands(wide int, high int, letters string) [][]string {
	var lands [][]string
	for _, text := range allFences(wide*high, letters) {
		var land []string
		for y := range high {
			land = append(land, text[y*wide:][:wide])
		}
		lands = append(lands, land)
	}
	return lands
}

// TestAllSmallLands compares for all lands of few squares, or of few owners.
func TestAllSmallLands(t *testing.T) {
	var lands [][]string
	for _, size := range [][2]int{{1, 1}, {2, 1}, {1, 2}, {3, 1}, {1, 3}, {2, 2}} {
		lands = append(lands, allLands(size[0], size[1], landLetters)...)
	}
	for _, size := range [][2]int{{4, 1}, {1, 4}, {3, 2}, {2, 3}} {
		lands = append(lands, allLands(size[0], size[1], ".bd")...)
	}
	lands = append(lands, allLands(3, 3, ".a")...)
	lands = append(lands, allLands(3, 3, "ce")...)
	for _, land := range lands {
		checkFields(t, land)
		checkFencesAddUp(t, land)
		for y, row := range land {
			for x := range row {
				checkGatesOver(t, land, [2]int{x, y})
				checkChangedLand(t, land, x, y)
			}
		}
	}
}

// TestRandomLands has land of up to as many squares as there may be.
func TestRandomLands(t *testing.T) {
	r := rand.New(rand.NewSource(82))
	for range 400 {
		land := randomLand(r)
		checkFields(t, land)
		checkFencesAddUp(t, land)
		from, at := randomPlace(r, land), randomPlace(r, land)
		checkGatesOver(t, land, [2]int(from))
		checkChangedLand(t, land, at[0], at[1])
	}
}

// TestTurnedLandIsTheSame looks at what does not depend on how land is turned.
func TestTurnedLandIsTheSame(t *testing.T) {
	r := rand.New(rand.NewSource(83))
	for range 100 {
		land := randomLand(r)
		a, b := randomPlace(r, land), randomPlace(r, land)
		turned, ok := impl.TurnLand(land)
		if !ok {
			t.Fatal("TurnLand", land)
		}
		// What is so far from above comes to be so far from the right.
		toA, toB := []int{len(land) - 1 - a[1], a[0]}, []int{len(land) - 1 - b[1], b[0]}
		expect(t, fmt.Sprint("FewestGatesOver ", land, a, b), results(impl.FewestGatesOver(turned, toA, toB)), results(impl.FewestGatesOver(land, a, b))...)
		expect(t, fmt.Sprint("AllFences ", land), results(impl.AllFences(turned)), results(impl.AllFences(land))...)
		for _, letter := range "abcde" {
			for name, call := range ownerCalls(turned, string(letter)) {
				expect(t, fmt.Sprint(name, land, string(letter)), call, ownerCalls(land, string(letter))[name]...)
			}
		}
	}
}

// TestAllSmallLists goes through all lists of up to three short texts, such ones too that are no rows.
func TestAllSmallLists(t *testing.T) {
	rows := []string{""}
	for long := 1; long <= 2; long++ {
		rows = append(rows, allFences(long, ".e/f")...)
	}
	lists := [][]string{nil}
	for from, many := 0, 0; many < 3; many++ {
		last := lists[from:]
		from = len(lists)
		for _, list := range last {
			for _, row := range rows {
				lists = append(lists, append(slices.Clone(list), row))
			}
		}
	}
	for _, list := range lists {
		isLand, text := plainIsLand(list), strings.Join(list, "/")
		expect(t, fmt.Sprintf("IsLand %q", list), results(impl.IsLand(list)), isLand)
		if isLand {
			expect(t, "LandText "+text, results(impl.LandText(list)), text, true)
		} else {
			expectAllZero(t, text, landCalls(list))
		}
		// With such letters a text may be one of other rows.
		if land := strings.Split(text, "/"); plainIsLand(land) {
			expect(t, "ParseLand "+text, results(impl.ParseLand(text)), land, true)
		} else {
			expectZero(t, "ParseLand "+text, results(impl.ParseLand(text)))
		}
	}
}
