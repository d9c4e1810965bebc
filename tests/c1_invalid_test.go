package tests

import (
	"slices"
	"testing"

	"loop.example/jointjudgments/impl"
)

// TestSpacesThatAreNotValid checks the fixed result of each function for each such space.
func TestSpacesThatAreNotValid(t *testing.T) {
	for _, s := range invalidSpaces() {
		checkFalse(t, s)
		checkNone(t, s)
		for _, j := range append(farNumbers(), 0, 1, 2, 3, 4) {
			d, ok := impl.DropIssue(s, j)
			wantNoSpace(t, "DropIssue", d, ok)
			d, ok = impl.FlipIssue(s, j)
			wantNoSpace(t, "FlipIssue", d, ok)
		}
		one := space(t, "1:0")
		d, ok := impl.CrossSpaces(s, one)
		wantNoSpace(t, "CrossSpaces", d, ok)
		d, ok = impl.CrossSpaces(one, s)
		wantNoSpace(t, "CrossSpaces", d, ok)
		d, ok = impl.CrossSpaces(s, s)
		wantNoSpace(t, "CrossSpaces", d, ok)
		wantNoSpace(t, "MedianClosure", impl.MedianClosure(s), false)
		wantNoSpace(t, "EvenClosure", impl.EvenClosure(s), false)
	}
}

func checkFalse(t *testing.T, s impl.Space) {
	t.Helper()
	if impl.ValidSpace(s) || impl.IsMedian(s) || impl.IsEven(s) || impl.IsBlocked(s) {
		t.Errorf("a report of %v is true", s)
	}
	for _, x := range append(farNumbers(), 0, 1, 2, 7, 15) {
		if impl.InSpace(s, x) {
			t.Errorf("InSpace(%v, %d) is true", s, x)
		}
		for _, p := range []impl.Part{{}, {Care: x}, {Care: x, Bits: x}, {Care: 15, Bits: x}} {
			if impl.ValidPart(s, p) || impl.IsOpen(s, p) {
				t.Errorf("ValidPart or IsOpen(%v, %v) is true", s, p)
			}
		}
	}
}

func checkNone(t *testing.T, s impl.Space) {
	t.Helper()
	if got := impl.CriticalParts(s); len(got) != 0 {
		t.Errorf("CriticalParts(%v) = %v", s, got)
	}
	if got := impl.SpaceText(s); got != "" {
		t.Errorf("SpaceText(%v) = %q", s, got)
	}
	wantNums(t, "LeadsOf", impl.LeadsOf(s))
	wantNums(t, "HullOf", impl.HullOf(s, s.All))
	wantNums(t, "HullOf none", impl.HullOf(s, nil))
	for _, x := range append(farNumbers(), 0, 1, 2, 7, 15) {
		wantNums(t, "NearestTo", impl.NearestTo(s, x))
		wantNums(t, "BetweenOf", impl.BetweenOf(s, x, x))
		wantNums(t, "BetweenOf 0", impl.BetweenOf(s, 0, x))
		wantNums(t, "HullOf one", impl.HullOf(s, []int{x}))
	}
}

// filled returns a list in the middle of greater memory, and that memory.
func filled(list []int) ([]int, []int) {
	memory := make([]int, len(list)+8)
	for i := range memory {
		memory[i] = 1000 + i
	}
	copy(memory[4:], list)
	return memory[4 : 4+len(list)], memory
}

// spoil writes over a list and its spare capacity.
func spoil(list []int) {
	list = list[:cap(list)]
	for i := range list {
		list[i] = -77
	}
}

// TestMemory checks that no function changes its arguments, keeps them, or gives parts of them out.
func TestMemory(t *testing.T) {
	calls := map[string]func(s impl.Space) []int{
		"BetweenOf":     func(s impl.Space) []int { return impl.BetweenOf(s, s.All[0], s.All[len(s.All)-1]) },
		"NearestTo":     func(s impl.Space) []int { return impl.NearestTo(s, 0) },
		"LeadsOf":       impl.LeadsOf,
		"HullOf":        func(s impl.Space) []int { return impl.HullOf(s, s.All[:1]) },
		"HullOf all":    func(s impl.Space) []int { return impl.HullOf(s, s.All[:min(len(s.All), maxParts)]) },
		"MedianClosure": func(s impl.Space) []int { return impl.MedianClosure(s).All },
		"EvenClosure":   func(s impl.Space) []int { return impl.EvenClosure(s).All },
		"DropIssue":     func(s impl.Space) []int { d, _ := impl.DropIssue(s, s.Issues-1); return d.All },
		"FlipIssue":     func(s impl.Space) []int { d, _ := impl.FlipIssue(s, 0); return d.All },
		"CrossSpaces": func(s impl.Space) []int {
			d, _ := impl.CrossSpaces(s, impl.Space{Issues: 1, All: []int{0}})
			return d.All
		},
		"CrossSpaces 1": func(s impl.Space) []int {
			d, _ := impl.CrossSpaces(impl.Space{Issues: 1, All: []int{0}}, s)
			return d.All
		},
	}
	for _, text := range []string{"1:1", andText, cycleText, "2:0,1,2,3", "3:0,7", allFour} {
		for name, call := range calls {
			s := space(t, text)
			list, memory := filled(s.All)
			before := slices.Clone(memory)
			got := call(impl.Space{Issues: s.Issues, All: list})
			want := slices.Clone(got)
			if !slices.Equal(memory, before) {
				t.Errorf("%s of %s changes its argument", name, text)
			}
			spoil(got)
			if !slices.Equal(memory, before) {
				t.Errorf("%s of %s gives out its argument", name, text)
			}
			wantNums(t, name+" once more", call(impl.Space{Issues: s.Issues, All: list}), want...)
		}
	}
}

// TestMemoryOfParts checks the same for the functions of parts.
func TestMemoryOfParts(t *testing.T) {
	s := space(t, andText)
	parts := impl.CriticalParts(s)
	want := slices.Clone(parts)
	for i := range parts {
		parts[i] = impl.Part{Care: -1, Bits: -1}
	}
	if got := impl.CriticalParts(s); !slices.Equal(got, want) || impl.SpaceText(s) != andText {
		t.Errorf("CriticalParts once more = %v", got)
	}
	list := []impl.Part{want[2], want[0], want[1]}
	before := slices.Clone(list)
	for range 2 {
		d, ok := impl.SpaceWithout(3, list)
		wantSpace(t, "SpaceWithout of other order", d, ok, andText)
		if !slices.Equal(list, before) {
			t.Errorf("SpaceWithout changes its argument")
		}
		spoil(d.All)
	}
	hullOf := []int{7, 1, 7}
	impl.HullOf(s, hullOf)
	wantNums(t, "the list of HullOf", hullOf, 7, 1, 7)
}
