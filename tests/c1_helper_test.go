package tests

import (
	"math"
	"slices"
	"testing"

	"loop.example/jointjudgments/impl"
)

// maxIssues and maxParts are written out, so that a changed constant is noticed.
const (
	maxIssues = 4
	maxParts  = 10
)

// spaceOfMask returns the space of the judgments whose bits are set in the mask.
func spaceOfMask(issues int, mask int) impl.Space {
	s := impl.Space{Issues: issues}
	for x := range 1 << issues {
		if mask>>x&1 == 1 {
			s.All = append(s.All, x)
		}
	}
	return s
}

// maskOf returns the sum of 2 to each judgment.
func maskOf(list []int) int {
	mask := 0
	for _, x := range list {
		mask |= 1 << x
	}
	return mask
}

// eachSpace calls visit with all spaces of up to so many issues.
func eachSpace(issues int, visit func(s impl.Space)) {
	for n := 1; n <= issues; n++ {
		for mask := 1; mask < 1<<(1<<n); mask++ {
			visit(spaceOfMask(n, mask))
		}
	}
}

// someSpaces calls visit with all spaces of up to three issues, and with one of step of those with four, that of all judgments among them.
func someSpaces(step int, visit func(s impl.Space)) {
	eachSpace(maxIssues-1, visit)
	for mask := 1<<16 - 1; mask > 0; mask -= step {
		visit(spaceOfMask(maxIssues, mask))
	}
}

// eachPart calls visit with all parts of judgments about so many issues.
func eachPart(issues int, visit func(p impl.Part)) {
	for care := range 1 << issues {
		for bits := range 1 << issues {
			if bits&care == bits {
				visit(impl.Part{Care: care, Bits: bits})
			}
		}
	}
}

// space returns the space of a text.
func space(t *testing.T, text string) impl.Space {
	t.Helper()
	s, ok := impl.ParseSpace(text)
	if !ok {
		t.Fatalf("ParseSpace(%q) fails", text)
	}
	return s
}

// wantNums checks a list; nil and empty are the same.
func wantNums(t *testing.T, name string, got []int, want ...int) {
	t.Helper()
	if !slices.Equal(got, want) {
		t.Errorf("%s = %v, want %v", name, got, want)
	}
}

// wantSpace checks a space and the bool beside it.
func wantSpace(t *testing.T, name string, got impl.Space, ok bool, text string) {
	t.Helper()
	if !ok || impl.SpaceText(got) != text {
		t.Errorf("%s = %v, %v, want %s", name, got, ok, text)
	}
}

// wantNoSpace checks that there is the zero value and false.
func wantNoSpace(t *testing.T, name string, got impl.Space, ok bool) {
	t.Helper()
	if ok || got.Issues != 0 || len(got.All) != 0 {
		t.Errorf("%s = %v, %v, want none", name, got, ok)
	}
}

// sameSpace reports whether two spaces are the same.
func sameSpace(a impl.Space, b impl.Space) bool {
	return a.Issues == b.Issues && slices.Equal(a.All, b.All)
}

// invalidSpaces returns spaces that are not valid, the limits and one more among them.
func invalidSpaces() []impl.Space {
	return []impl.Space{
		{},
		{Issues: 0, All: []int{0}},
		{Issues: -1, All: []int{0}},
		{Issues: maxIssues + 1, All: []int{0}},
		{Issues: 64, All: []int{0}},
		{Issues: math.MaxInt, All: []int{0, 1}},
		{Issues: math.MinInt, All: []int{0, 1}},
		{Issues: 1},
		{Issues: 3, All: []int{}},
		{Issues: 1, All: []int{2}},
		{Issues: 2, All: []int{0, 4}},
		{Issues: 3, All: []int{0, 8}},
		{Issues: 4, All: []int{0, 16}},
		{Issues: 2, All: []int{-1}},
		{Issues: 2, All: []int{-1, 0, 1}},
		{Issues: 2, All: []int{1, 0}},
		{Issues: 2, All: []int{0, 0}},
		{Issues: 3, All: []int{0, 1, 2, 2, 7}},
		{Issues: 3, All: []int{0, 5, 4, 7}},
		{Issues: 4, All: []int{math.MinInt, 0}},
		{Issues: 4, All: []int{0, math.MaxInt}},
	}
}

// farNumbers returns numbers that are no judgment of any space and no issue of it.
func farNumbers() []int {
	return []int{-1, -2, -16, 16, 17, 31, 32, 63, 64, math.MaxInt, math.MinInt}
}
