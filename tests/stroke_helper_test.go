package tests

import (
	"math/rand"
	"slices"
	"strings"
	"testing"

	"loop.example/g01373/impl"
)

const (
	mostBoards  = "abcdeabcdeabcdeabcd."
	tooMany     = mostBoards + "a"
	shortBoards = "abcdeabcdeab"
)

func stroke(from int, to int, colour string) impl.Stroke {
	return impl.Stroke{From: from, To: to, Colour: colour}
}

// strokes reads a text without the program's own reader.
func strokes(t *testing.T, text string) []impl.Stroke {
	t.Helper()
	var list []impl.Stroke
	for _, part := range strings.FieldsFunc(text, func(r rune) bool { return r == ',' }) {
		var s impl.Stroke
		from, rest, found := strings.Cut(part, "-")
		if !found || rest == "" {
			t.Fatalf("no stroke: %q", part)
		}
		s.From, s.To, s.Colour = digits(from), digits(rest[:len(rest)-1]), rest[len(rest)-1:]
		list = append(list, s)
	}
	return list
}

func digits(text string) int {
	n := 0
	for _, r := range text {
		n = n*10 + int(r-'0')
	}
	return n
}

// manyStrokes returns a list of so many strokes for fences of three boards at least.
func manyStrokes(many int) []impl.Stroke {
	var list []impl.Stroke
	for i := range many {
		list = append(list, stroke(i%3, 2, string("abcde"[i%5])))
	}
	return list
}

// plainPaint paints board by board.
func plainPaint(fence string, list []impl.Stroke) string {
	boards := []byte(fence)
	for _, s := range list {
		for i := range boards {
			if i >= s.From && i <= s.To {
				boards[i] = s.Colour[0]
			}
		}
	}
	return string(boards)
}

// allFences returns all fences of so many boards of some letters.
func allFences(boards int, letters string) []string {
	fences := []string{""}
	for range boards {
		var longer []string
		for _, fence := range fences {
			for _, letter := range letters {
				longer = append(longer, fence+string(letter))
			}
		}
		fences = longer
	}
	return fences
}

// allStrokes returns all strokes of so many boards in order.
func allStrokes(boards int, letters string) []impl.Stroke {
	var list []impl.Stroke
	for from := range boards {
		for to := from; to < boards; to++ {
			for _, letter := range letters {
				list = append(list, stroke(from, to, string(letter)))
			}
		}
	}
	return list
}

func randomFence(r *rand.Rand, boards int, letters string) string {
	fence := make([]byte, boards)
	for i := range fence {
		fence[i] = letters[r.Intn(len(letters))]
	}
	return string(fence)
}

func randomStrokes(r *rand.Rand, boards int, many int) []impl.Stroke {
	var list []impl.Stroke
	for range many {
		from := r.Intn(boards)
		list = append(list, stroke(from, from+r.Intn(boards-from), string("abcde"[r.Intn(5)])))
	}
	return list
}

// without returns a list without the stroke with an index.
func without(list []impl.Stroke, k int) []impl.Stroke {
	return slices.Delete(slices.Clone(list), k, k+1)
}
