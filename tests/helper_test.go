package tests

import (
	"math/rand"
	"reflect"
	"slices"
	"testing"
)

// results turns the results of a call into a list, so that calls of all kinds can be compared.
func results(values ...any) []any {
	return values
}

// same compares results, with nil slices and empty ones being the same value.
func same(a []any, b []any) bool {
	if len(a) != len(b) {
		return false
	}
	for i := range a {
		x, y := reflect.ValueOf(a[i]), reflect.ValueOf(b[i])
		if x.Kind() == reflect.Slice && x.Type() == y.Type() && x.Len() == 0 && y.Len() == 0 {
			continue
		}
		if !reflect.DeepEqual(a[i], b[i]) {
			return false
		}
	}
	return true
}

// expect tells where the results of a call are not the ones wanted.
func expect(t *testing.T, name string, got []any, want ...any) {
	t.Helper()
	if !same(got, want) {
		t.Errorf("%s: got %#v, want %#v", name, got, want)
	}
}

// expectZero tells where a call that fails has other results than zero values.
func expectZero(t *testing.T, name string, got []any) {
	t.Helper()
	for _, value := range got {
		v := reflect.ValueOf(value)
		if v.Kind() == reflect.Slice && v.Len() == 0 {
			continue
		}
		if !v.IsZero() {
			t.Errorf("%s: got %#v, want zero values", name, got)
			return
		}
	}
}

// expectNew spoils the results of calls: neither the lists that are their arguments nor the next calls' results may show it.
func expectNew(t *testing.T, lists [][]int, again func() []map[string][]any) {
	t.Helper()
	before := slices.Concat(lists...)
	want := again()
	for _, calls := range again() {
		for _, got := range calls {
			spoil(got)
		}
	}
	if !slices.Equal(slices.Concat(lists...), before) {
		t.Error("an argument shares memory with a result")
	}
	if got := again(); !reflect.DeepEqual(got, want) {
		t.Errorf("got %v, want %v", got, want)
	}
}

// expectApart spoils each list of a result: no other one may show it.
func expectApart(t *testing.T, calls map[string]func() ([][]int, bool)) {
	t.Helper()
	for name, again := range calls {
		want, _ := again()
		for k := range want {
			got, _ := again()
			spoil(results(got[k]))
			got[k] = want[k]
			if !reflect.DeepEqual(got, want) {
				t.Error("the lists share memory:", name, k, got)
			}
		}
	}
}

// expectZeroIfFailed looks at those calls alone whose last result is false.
func expectZeroIfFailed(t *testing.T, calls []map[string][]any) {
	t.Helper()
	for _, kind := range calls {
		for name, got := range kind {
			if got[len(got)-1] == false {
				expectZero(t, name, got)
			}
		}
	}
}

// anyList returns 1..long numbers in 1..most, or as well perhaps one more, or none, of whatever numbers are told.
func anyList(r *rand.Rand, long int, most int, numbers []int) []int {
	if r.Intn(2) == 0 {
		return randomNumbers(r, long, most)
	}
	var drawn []int
	for range r.Intn(long + 2) {
		drawn = append(drawn, numbers[r.Intn(len(numbers))])
	}
	return drawn
}

// spoil changes each element of each slice among results.
func spoil(values []any) {
	for _, value := range values {
		v := reflect.ValueOf(value)
		if v.Kind() != reflect.Slice {
			continue
		}
		v = v.Slice3(0, v.Cap(), v.Cap())
		for i := range v.Len() {
			spoilElement(v.Index(i))
		}
	}
}

func spoilElement(v reflect.Value) {
	switch v.Kind() {
	case reflect.Int:
		v.SetInt(-77)
	case reflect.String:
		v.SetString("spoilt")
	case reflect.Slice:
		for i := range v.Len() {
			spoilElement(v.Index(i))
		}
	case reflect.Struct:
		for i := range v.NumField() {
			spoilElement(v.Field(i))
		}
	}
}
