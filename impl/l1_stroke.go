package impl

import (
	"strconv"
	"strings"
)

const MaxBoards = 20
const MaxStrokes = 40
const MaxShort = 12

// bareBoard stands in a fence for a board without a colour.
const bareBoard = '.'

// allColours are the colours that a board may have, in their order.
const allColours = "abcde"

type Stroke struct {
	From   int
	To     int
	Colour string
}

// partStrokes has in row i, column j the fewest strokes that paint all boards
// from i up to, without, j as a fence has them, whatever they were before. Parts
// with bare boards in them have numbers without a meaning.
type partStrokes [MaxBoards + 1][MaxBoards + 1]int

// IsFence reports whether a text is a fence.
func IsFence(fence string) bool {
	if len(fence) < 1 || len(fence) > MaxBoards {
		return false
	}
	for i := range len(fence) {
		if fence[i] != bareBoard && !isColour(fence[i:i+1]) {
			return false
		}
	}
	return true
}

// isColour rejects a bare board: nothing can be painted bare.
func isColour(text string) bool {
	return len(text) == 1 && strings.Contains(allColours, text)
}

// BareFence returns the fence of so many bare boards, 1..MaxBoards.
func BareFence(boards int) (string, bool) {
	if boards < 1 || boards > MaxBoards {
		return "", false
	}
	return bareBoards(boards), true
}

func bareBoards(boards int) string {
	return strings.Repeat(string(bareBoard), boards)
}

// IsStroke reports whether s, whose numbers and text may be any, is a stroke of a fence.
func IsStroke(fence string, s Stroke) (bool, bool) {
	if !IsFence(fence) {
		return false, false
	}
	return isStrokeOf(len(fence), s), true
}

func isStrokeOf(boards int, s Stroke) bool {
	return s.From >= 0 && s.From <= s.To && s.To < boards && isColour(s.Colour)
}

// areStrokesOf reports whether a list is one of strokes, and not too long.
func areStrokesOf(boards int, list []Stroke) bool {
	if len(list) > MaxStrokes {
		return false
	}
	for _, s := range list {
		if !isStrokeOf(boards, s) {
			return false
		}
	}
	return true
}

// arePaintable reports whether all strokes of a list can be made on a fence.
func arePaintable(fence string, list []Stroke) bool {
	return IsFence(fence) && areStrokesOf(len(fence), list)
}

// PaintStroke returns the fence behind a stroke.
func PaintStroke(fence string, s Stroke) (string, bool) {
	if isStroke, ok := IsStroke(fence, s); !ok || !isStroke {
		return "", false
	}
	return painted(fence, s), true
}

func painted(fence string, s Stroke) string {
	return fence[:s.From] + strings.Repeat(s.Colour, s.To-s.From+1) + fence[s.To+1:]
}

// PaintAll returns it behind a list of them.
func PaintAll(fence string, list []Stroke) (string, bool) {
	if !arePaintable(fence, list) {
		return "", false
	}
	return paintedWithout(fence, list, len(list)), true
}

// paintedWithout returns the fence behind all strokes but the one with an index.
func paintedWithout(fence string, list []Stroke, left int) string {
	for i, s := range list {
		if i != left {
			fence = painted(fence, s)
		}
	}
	return fence
}

// runEnds returns for the first board of each run the last one.
func runEnds(fence string) map[int]int {
	runs := map[int]int{}
	first := 0
	for i := range len(fence) {
		if fence[i] != fence[first] {
			first = i
		}
		runs[first] = i
	}
	return runs
}

// RunsOf returns all runs as strokes, from the left on, those of bare boards left out.
func RunsOf(fence string) ([]Stroke, bool) {
	if !IsFence(fence) {
		return nil, false
	}
	ends := runEnds(fence)
	var list []Stroke
	// The boards, not the map, are gone through, as these are in order.
	for first := range len(fence) {
		last, begins := ends[first]
		if begins && fence[first] != bareBoard {
			list = append(list, Stroke{From: first, To: last, Colour: string(fence[first])})
		}
	}
	return list, true
}

// CountRuns returns how many runs there are, those of bare boards with them.
func CountRuns(fence string) (int, bool) {
	if !IsFence(fence) {
		return 0, false
	}
	return len(runEnds(fence)), true
}

// FewestStrokes returns the least number of strokes that lead from bare boards to a fence.
func FewestStrokes(fence string) (int, bool) {
	if !IsFence(fence) {
		return 0, false
	}
	return FewestOver(bareBoards(len(fence)), fence)
}

// FewestOver returns the least number of strokes that lead from a fence to another one of as many boards. It fails if there are none: if a board is bare in the second one, and not in the first one.
func FewestOver(from string, to string) (int, bool) {
	if !canLead(from, to) {
		return 0, false
	}
	return fewestByParts(strokesOfParts(to), from, to), true
}

// canLead reports whether there are strokes from one fence to the other one: none makes a board bare again.
func canLead(from string, to string) bool {
	if !IsFence(from) || !IsFence(to) || len(from) != len(to) {
		return false
	}
	for i := range len(to) {
		if to[i] == bareBoard && from[i] != bareBoard {
			return false
		}
	}
	return true
}

// strokesOfParts relies on the stroke of a part's first board being the lowest
// one there: it ends at that board, or goes on to another one of its colour,
// and what is between them is painted over it.
func strokesOfParts(to string) partStrokes {
	var fewest partStrokes
	for start := len(to) - 1; start >= 0; start-- {
		for end := start + 1; end <= len(to); end++ {
			best := 1 + fewest[start+1][end]
			for other := start + 1; other < end; other++ {
				if to[other] == to[start] {
					best = min(best, fewest[start+1][other]+fewest[other][end])
				}
			}
			fewest[start][end] = best
		}
	}
	return fewest
}

// fewestByParts parts the boards into those that are kept and parts that are
// painted all over, for the boards that strokes paint together are such parts.
func fewestByParts(ofParts partStrokes, from string, to string) int {
	var fewest [MaxBoards + 1]int
	for end := 1; end <= len(to); end++ {
		best := MaxBoards
		if from[end-1] == to[end-1] {
			best = fewest[end-1]
		}
		for start := end - 1; start >= 0 && to[start] != bareBoard; start-- {
			best = min(best, fewest[start]+ofParts[start][end])
		}
		fewest[end] = best
	}
	return fewest[len(to)]
}

// FirstOver returns the first list of so few strokes, for fences of at most MaxShort boards. It fails in the same way.
func FirstOver(from string, to string) ([]Stroke, bool) {
	if !canLead(from, to) || len(to) > MaxShort {
		return nil, false
	}
	ofParts := strokesOfParts(to)
	var list []Stroke
	for left := fewestByParts(ofParts, from, to); left > 0; left-- {
		next := nextStroke(ofParts, from, to, left)
		list = append(list, next)
		from = painted(from, next)
	}
	return list, true
}

// nextStroke returns the first stroke behind which one less than left strokes are enough.
func nextStroke(ofParts partStrokes, from string, to string, left int) Stroke {
	var next Stroke
search:
	for first := range len(to) {
		for last := first; last < len(to) && to[last] != bareBoard; last++ {
			for _, colour := range allColours {
				next = Stroke{From: first, To: last, Colour: string(colour)}
				if fewestByParts(ofParts, painted(from, next), to) < left {
					break search
				}
			}
		}
	}
	return next
}

// KeptBoards returns the boards that no stroke of FirstOver paints, increasing. It fails in the same way.
func KeptBoards(from string, to string) ([]int, bool) {
	list, ok := FirstOver(from, to)
	if !ok {
		return nil, false
	}
	coats := countCoats(list)
	var kept []int
	for i := range len(to) {
		if coats[i] == 0 {
			kept = append(kept, i)
		}
	}
	return kept, true
}

// NeedlessStrokes returns the indices of all strokes of a list without each of which, one alone, the fence is the same behind the others, increasing.
func NeedlessStrokes(fence string, list []Stroke) ([]int, bool) {
	behind, ok := PaintAll(fence, list)
	if !ok {
		return nil, false
	}
	var needless []int
	for i := range list {
		if paintedWithout(fence, list, i) == behind {
			needless = append(needless, i)
		}
	}
	return needless, true
}

// SeenStrokes returns the indices of all strokes of a list that paint a board which no later one paints, increasing.
func SeenStrokes(fence string, list []Stroke) ([]int, bool) {
	if !arePaintable(fence, list) {
		return nil, false
	}
	var seen []int
	for i, s := range list {
		later := countCoats(list[i+1:])
		for board := s.From; board <= s.To; board++ {
			if later[board] == 0 {
				seen = append(seen, i)
				break
			}
		}
	}
	return seen, true
}

// CoatsOf returns how often each board is painted by a list.
func CoatsOf(fence string, list []Stroke) ([]int, bool) {
	if !arePaintable(fence, list) {
		return nil, false
	}
	coats := countCoats(list)
	return coats[:len(fence)], true
}

func countCoats(list []Stroke) [MaxBoards]int {
	var coats [MaxBoards]int
	for _, s := range list {
		for board := s.From; board <= s.To; board++ {
			coats[board]++
		}
	}
	return coats
}

// PaintUsed returns how many boards strokes of a list paint together, each as often as it is painted.
func PaintUsed(fence string, list []Stroke) (int, bool) {
	if !arePaintable(fence, list) {
		return 0, false
	}
	used := 0
	for _, s := range list {
		used += s.To - s.From + 1
	}
	return used, true
}

// LongestRun returns the first board of the longest run of one colour, not of bare boards, the first one of several, and how long it is. It fails if all are bare.
func LongestRun(fence string) (int, int, bool) {
	runs, _ := RunsOf(fence)
	first, long := 0, 0
	for _, run := range runs {
		if boards := run.To - run.From + 1; boards > long {
			first, long = run.From, boards
		}
	}
	return first, long, long > 0
}

// ColoursOf returns all colours of a fence, increasing.
func ColoursOf(fence string) (string, bool) {
	if !IsFence(fence) {
		return "", false
	}
	used := ""
	for _, colour := range allColours {
		if strings.ContainsRune(fence, colour) {
			used += string(colour)
		}
	}
	return used, true
}

// MirrorFence returns the fence told from the right.
func MirrorFence(fence string) (string, bool) {
	if !IsFence(fence) {
		return "", false
	}
	return toldFromRight(fence), true
}

func toldFromRight(boards string) string {
	mirrored := ""
	for _, board := range boards {
		mirrored = string(board) + mirrored
	}
	return mirrored
}

// JoinFences returns the fence with the boards of a, and behind them those of b. It fails if they are too many.
func JoinFences(a string, b string) (string, bool) {
	if !IsFence(a) || !IsFence(b) || len(a)+len(b) > MaxBoards {
		return "", false
	}
	return a + b, true
}

// StrokesText returns for each stroke of a fence of MaxBoards boards From, -, To and Colour, with , between strokes: an empty text for none.
func StrokesText(list []Stroke) (string, bool) {
	if !areStrokesOf(MaxBoards, list) {
		return "", false
	}
	texts := make([]string, len(list))
	for i, s := range list {
		texts[i] = strconv.Itoa(s.From) + "-" + strconv.Itoa(s.To) + s.Colour
	}
	return strings.Join(texts, ","), true
}

// ParseStrokes returns the strokes with a StrokesText. It fails if there are none such.
func ParseStrokes(s string) ([]Stroke, bool) {
	if s == "" {
		return nil, true
	}
	var list []Stroke
	for _, text := range strings.SplitN(s, ",", MaxStrokes+1) {
		stroke, ok := parseStroke(text)
		if !ok {
			return nil, false
		}
		list = append(list, stroke)
	}
	// Numbers may be written in more ways than one, but a text only in this one.
	if text, ok := StrokesText(list); !ok || text != s {
		return nil, false
	}
	return list, true
}

func parseStroke(text string) (Stroke, bool) {
	from, rest, found := strings.Cut(text, "-")
	if !found || rest == "" {
		return Stroke{}, false
	}
	to, colour := rest[:len(rest)-1], rest[len(rest)-1:]
	first, firstErr := strconv.Atoi(from)
	last, lastErr := strconv.Atoi(to)
	if firstErr != nil || lastErr != nil {
		return Stroke{}, false
	}
	return Stroke{From: first, To: last, Colour: strings.Clone(colour)}, true
}
