package tests

import (
	"math/rand"
	"slices"
	"strings"

	"loop.example/g01373/impl"
)

const landLetters = ".abcde"

// plainByFence goes from the flattest rectangle on, as long as it is wider than high.
func plainByFence(fence int) [][]int {
	var rectangles [][]int
	for height := 1; fence%2 == 0 && fence/2-height >= height; height++ {
		rectangles = append(rectangles, []int{fence/2 - height, height})
	}
	return rectangles
}

// plainByArea tries all heights up to the one of a square.
func plainByArea(area int) [][]int {
	var rectangles [][]int
	for height := 1; height*height <= area; height++ {
		if area%height == 0 {
			rectangles = append(rectangles, []int{area / height, height})
		}
	}
	return rectangles
}

// plainBestOf returns the first one of rectangles for which a number is greatest, nil without one.
func plainBestOf(rectangles [][]int, numberOf func(width int, height int) int) []int {
	var best []int
	for _, sides := range rectangles {
		if best == nil || numberOf(sides[0], sides[1]) > numberOf(best[0], best[1]) {
			best = sides
		}
	}
	return best
}

// plainAtWall goes on to lesser sides at the wall, which come before equally good ones.
func plainAtWall(fence int) (int, int) {
	atWall, other := 0, 0
	for depth := 1; fence-2*depth >= 1; depth++ {
		if (fence-2*depth)*depth >= atWall*other {
			atWall, other = fence-2*depth, depth
		}
	}
	return atWall, other
}

// plainEqual returns all rectangles of sides up to MaxSide with as much area as fence.
func plainEqual() [][]int {
	var equal [][]int
	for width := 1; width <= impl.MaxSide; width++ {
		for height := 1; height <= width; height++ {
			if width*height-2*width-2*height == 0 {
				equal = append(equal, []int{width, height})
			}
		}
	}
	return equal
}

// plainRow puts field after field beside the row.
func plainRow(fields int, wide int, high int) int {
	fence := high
	for range fields {
		fence += wide + high + wide
	}
	return fence
}

// plainForFields tries all numbers of rows, and counts fences row by row and column by column.
func plainForFields(fields int) (int, int) {
	best, least := 0, 0
	for rows := 1; rows*rows <= fields; rows++ {
		columns := fields / rows
		fence := rows*(columns+1) + columns*(rows+1)
		if rows*columns == fields && (best == 0 || fence < least) {
			best, least = rows, fence
		}
	}
	return best, fields / best
}

// plainSquares cuts off all equal squares at once.
func plainSquares(long int, short int) []int {
	if short == 0 {
		return nil
	}
	if long < short {
		return plainSquares(short, long)
	}
	return append(times(long/short, short), plainSquares(short, long%short)...)
}

// plainCount counts for each unit square the squares that it is the last one of.
func plainCount(wide int, high int) int {
	count := 0
	for x := 1; x <= wide; x++ {
		for y := 1; y <= high; y++ {
			count += min(x, y)
		}
	}
	return count
}

func plainIsLand(land []string) bool {
	if len(land) == 0 || len(land) > 12 {
		return false
	}
	for _, row := range land {
		if len(row) == 0 || len(row) > 12 || len(row) != len(land[0]) {
			return false
		}
		for i := range len(row) {
			if row[i] != '.' && (row[i] < 'a' || row[i] > 'e') {
				return false
			}
		}
	}
	return true
}

// plainFences tells for each unit of fence, in no order, the owners beside it.
func plainFences(land []string) []string {
	sides := map[[2]int]string{}
	for y, row := range land {
		for x := range row {
			for _, side := range [][2]int{{2 * x, 2*y + 1}, {2*x + 2, 2*y + 1}, {2*x + 1, 2 * y}, {2*x + 1, 2*y + 2}} {
				sides[side] += row[x : x+1]
			}
		}
	}
	var fences []string
	for _, beside := range sides {
		if len(beside) == 1 {
			// Nobody has what is outside the land.
			beside += "."
		}
		if beside[0] != beside[1] {
			fences = append(fences, strings.ReplaceAll(beside, ".", ""))
		}
	}
	return fences
}

// countBeside counts the fences beside which all owners are that are told.
func countBeside(fences []string, owners ...string) int {
	count := 0
	for _, beside := range fences {
		if !slices.ContainsFunc(owners, func(owner string) bool { return !strings.Contains(beside, owner) }) {
			count++
		}
	}
	return count
}

func plainNeighbours(fences []string, owner string) string {
	neighbours := ""
	for _, other := range "abcde" {
		if string(other) != owner && countBeside(fences, owner, string(other)) > 0 {
			neighbours += string(other)
		}
	}
	return neighbours
}

// plainPartOf gives all squares of a part the same number, the least one of those that they have at first.
func plainPartOf(land []string) map[[2]int]int {
	parts := map[[2]int]int{}
	for y, row := range land {
		for x := range row {
			parts[[2]int{x, y}] = y*len(row) + x
		}
	}
	for isChanged := true; isChanged; {
		isChanged = false
		for place, part := range parts {
			for _, beside := range placesBeside(land, place) {
				if letterAt(land, place) == letterAt(land, beside) && parts[beside] < part {
					parts[place], part, isChanged = parts[beside], parts[beside], true
				}
			}
		}
	}
	return parts
}

func letterAt(land []string, place [2]int) byte {
	return land[place[1]][place[0]]
}

// placesBeside are those on the land.
func placesBeside(land []string, place [2]int) [][2]int {
	var beside [][2]int
	x, y := place[0], place[1]
	if x > 0 {
		beside = append(beside, [2]int{x - 1, y})
	}
	if x < len(land[0])-1 {
		beside = append(beside, [2]int{x + 1, y})
	}
	if y > 0 {
		beside = append(beside, [2]int{x, y - 1})
	}
	if y < len(land)-1 {
		beside = append(beside, [2]int{x, y + 1})
	}
	return beside
}

// plainPartAreas returns the areas of all parts of an owner's field, greater ones first.
func plainPartAreas(land []string, owner string) []int {
	areas := map[int]int{}
	for place, part := range plainPartOf(land) {
		if letterAt(land, place) == owner[0] {
			areas[part]++
		}
	}
	var sorted []int
	for _, area := range areas {
		sorted = append(sorted, area)
	}
	slices.Sort(sorted)
	slices.Reverse(sorted)
	return sorted
}

// plainGatesFrom returns for each place the least number of fences on a way from one place, found by making ways shorter as long as that is possible.
func plainGatesFrom(land []string, from [2]int) map[[2]int]int {
	gates := map[[2]int]int{}
	for y, row := range land {
		for x := range row {
			gates[[2]int{x, y}] = len(land) * len(row)
		}
	}
	gates[from] = 0
	for isChanged := true; isChanged; {
		isChanged = false
		for place, count := range gates {
			for _, beside := range placesBeside(land, place) {
				more := 0
				if letterAt(land, place) != letterAt(land, beside) {
					more = 1
				}
				if gates[beside]+more < count {
					gates[place], count, isChanged = gates[beside]+more, gates[beside]+more, true
				}
			}
		}
	}
	return gates
}

// plainTurnedLand moves square by square.
func plainTurnedLand(land []string) []string {
	high, wide := len(land), len(land[0])
	turned := slices.Repeat([]string{strings.Repeat(".", high)}, wide)
	for y, row := range land {
		for x := range row {
			turned[x] = turned[x][:high-1-y] + row[x:x+1] + turned[x][high-y:]
		}
	}
	return turned
}

// chessLand is land on which all squares beside each other have different owners.
func chessLand(wide int, high int) []string {
	land := make([]string, high)
	for y := range land {
		land[y] = strings.Repeat("ab", impl.MaxAcre)[y%2:][:wide]
	}
	return land
}

// randomLand is either without any order or made of rectangles, some of which lie on others.
func randomLand(r *rand.Rand) []string {
	wide, high := 1+r.Intn(impl.MaxAcre), 1+r.Intn(impl.MaxAcre)
	if r.Intn(4) == 0 {
		wide, high = impl.MaxAcre, impl.MaxAcre
	}
	letters := []string{landLetters, ".a", "ab", ".aaab", "abcde", "......d"}[r.Intn(6)]
	land := make([]string, high)
	for y := range land {
		land[y] = randomFence(r, wide, letters)
	}
	if r.Intn(2) == 0 {
		return land
	}
	for range 1 + r.Intn(12) {
		left, top := r.Intn(wide), r.Intn(high)
		right, below := left+1+r.Intn(wide-left), top+1+r.Intn(high-top)
		letter := landLetters[r.Intn(6):][:1]
		for y := top; y < below; y++ {
			land[y] = land[y][:left] + strings.Repeat(letter, right-left) + land[y][right:]
		}
	}
	return land
}

func randomPlace(r *rand.Rand, land []string) []int {
	return []int{r.Intn(len(land[0])), r.Intn(len(land))}
}
