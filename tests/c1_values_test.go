package tests

import (
	"slices"
	"strings"
	"testing"

	"loop.example/jointjudgments/impl"
)

const (
	andText   = "3:0,1,2,7"
	cycleText = "3:1,2,3,4,5,6"
	allFour   = "4:0,1,2,3,4,5,6,7,8,9,10,11,12,13,14,15"
)

func TestLimits(t *testing.T) {
	if impl.MaxIssues != maxIssues || impl.MaxParts != maxParts {
		t.Errorf("limits are %d and %d", impl.MaxIssues, impl.MaxParts)
	}
}

func TestValidSpace(t *testing.T) {
	valid := []impl.Space{
		{Issues: 1, All: []int{0}},
		{Issues: 1, All: []int{1}},
		{Issues: 1, All: []int{0, 1}},
		{Issues: 2, All: []int{3}},
		{Issues: 3, All: []int{0, 7}},
		{Issues: 4, All: []int{15}},
		{Issues: 4, All: []int{0, 1, 2, 3, 4, 5, 6, 7, 8, 9, 10, 11, 12, 13, 14, 15}},
	}
	for _, s := range valid {
		if !impl.ValidSpace(s) {
			t.Errorf("ValidSpace(%v) is false", s)
		}
	}
	for _, s := range invalidSpaces() {
		if impl.ValidSpace(s) {
			t.Errorf("ValidSpace(%v) is true", s)
		}
	}
}

func TestInSpace(t *testing.T) {
	someSpaces(97, func(s impl.Space) {
		for x := range 1 << s.Issues {
			if impl.InSpace(s, x) != slices.Contains(s.All, x) {
				t.Fatalf("InSpace(%v, %d)", s, x)
			}
		}
		for _, x := range farNumbers() {
			if impl.InSpace(s, x) {
				t.Fatalf("InSpace(%v, %d)", s, x)
			}
		}
	})
}

func TestValidPart(t *testing.T) {
	for issues := 1; issues <= maxIssues; issues++ {
		s := spaceOfMask(issues, 1)
		for care := -40; care <= 40; care++ {
			for bits := -40; bits <= 40; bits++ {
				want := care >= 0 && care < 1<<issues && bits >= 0 && bits < 1<<issues
				for j := 0; want && j < issues; j++ {
					want = answer(bits, j) <= answer(care, j)
				}
				if got := impl.ValidPart(s, impl.Part{Care: care, Bits: bits}); got != want {
					t.Fatalf("ValidPart(%v, %d, %d) = %v", s, care, bits, got)
				}
			}
		}
	}
}

func TestIsOpen(t *testing.T) {
	t.Parallel()
	someSpaces(11, func(s impl.Space) {
		eachPart(s.Issues, func(p impl.Part) {
			if impl.IsOpen(s, p) != openByWords(s, p) {
				t.Fatalf("IsOpen(%v, %v)", s, p)
			}
		})
	})
	all := space(t, allFour)
	for _, n := range farNumbers() {
		for _, p := range []impl.Part{{Care: n}, {Care: n, Bits: n}, {Care: 15, Bits: n}, {Bits: n}} {
			if impl.IsOpen(all, p) || impl.ValidPart(all, p) {
				t.Errorf("IsOpen(%v) of a part that is not valid", p)
			}
		}
	}
	if impl.IsOpen(all, impl.Part{Care: 1, Bits: 2}) || impl.IsOpen(all, impl.Part{Bits: 1}) {
		t.Error("IsOpen of a part with an answer to an issue that it does not answer")
	}
	if !impl.IsOpen(space(t, "1:1"), impl.Part{}) || !impl.IsOpen(all, impl.Part{}) {
		t.Error("IsOpen of the part of no issue")
	}
	if impl.IsOpen(space(t, "2:3"), impl.Part{Care: 4, Bits: 4}) || impl.IsOpen(space(t, "2:3"), impl.Part{Care: 4}) {
		t.Error("IsOpen of a part of one issue more")
	}
}

func TestCriticalParts(t *testing.T) {
	t.Parallel()
	eachSpace(maxIssues, func(s impl.Space) {
		if got, want := impl.CriticalParts(s), criticalByWords(s); !slices.Equal(got, want) {
			t.Fatalf("CriticalParts(%v) = %v, want %v", s, got, want)
		}
	})
	if got := impl.CriticalParts(space(t, allFour)); len(got) != 0 {
		t.Errorf("CriticalParts of all judgments = %v", got)
	}
	got := impl.CriticalParts(space(t, "4:5"))
	want := []impl.Part{{Care: 1, Bits: 0}, {Care: 2, Bits: 2}, {Care: 4, Bits: 0}, {Care: 8, Bits: 8}}
	if !slices.Equal(got, want) {
		t.Errorf("CriticalParts of one judgment = %v", got)
	}
	if got := impl.CriticalParts(space(t, "4:0,15")); len(got) != 12 {
		t.Errorf("CriticalParts, more than MaxParts = %v", got)
	}
}

func TestSpaceWithout(t *testing.T) {
	one := impl.Part{Care: 15, Bits: 15}
	d, ok := impl.SpaceWithout(1, nil)
	wantSpace(t, "SpaceWithout(1, nil)", d, ok, "1:0,1")
	d, ok = impl.SpaceWithout(4, []impl.Part{})
	wantSpace(t, "SpaceWithout(4, none)", d, ok, allFour)
	d, ok = impl.SpaceWithout(3, []impl.Part{{Care: 5, Bits: 4}, {Care: 6, Bits: 4}, {Care: 7, Bits: 3}})
	wantSpace(t, "SpaceWithout of and", d, ok, andText)
	d, ok = impl.SpaceWithout(1, []impl.Part{{Care: 1, Bits: 0}})
	wantSpace(t, "SpaceWithout(1, 0)", d, ok, "1:1")
	d, ok = impl.SpaceWithout(4, slices.Repeat([]impl.Part{one}, maxParts))
	wantSpace(t, "SpaceWithout of MaxParts", d, ok, strings.TrimSuffix(allFour, ",15"))
	d, ok = impl.SpaceWithout(4, slices.Repeat([]impl.Part{one}, maxParts+1))
	wantNoSpace(t, "SpaceWithout of MaxParts and 1", d, ok)
	d, ok = impl.SpaceWithout(3, []impl.Part{{}})
	wantNoSpace(t, "SpaceWithout of no issue", d, ok)
	d, ok = impl.SpaceWithout(2, []impl.Part{{Care: 1, Bits: 0}, {Care: 1, Bits: 1}})
	wantNoSpace(t, "SpaceWithout of all", d, ok)
	for _, issues := range append(farNumbers(), 0, maxIssues+1) {
		d, ok = impl.SpaceWithout(issues, nil)
		wantNoSpace(t, "SpaceWithout of no valid number", d, ok)
		d, ok = impl.SpaceWithout(issues, []impl.Part{{Care: 1, Bits: 1}})
		wantNoSpace(t, "SpaceWithout of no valid number", d, ok)
	}
	for _, p := range []impl.Part{{Care: 1, Bits: 2}, {Care: 4}, {Care: 4, Bits: 4}, {Care: -1}, {Care: 3, Bits: -1}, {Bits: 1}} {
		d, ok = impl.SpaceWithout(2, []impl.Part{p})
		wantNoSpace(t, "SpaceWithout of a part that is not valid", d, ok)
		d, ok = impl.SpaceWithout(2, []impl.Part{{Care: 3, Bits: 1}, p})
		wantNoSpace(t, "SpaceWithout of a last part that is not valid", d, ok)
	}
}

func TestIsMedianAndIsEven(t *testing.T) {
	for issues := 1; issues <= maxIssues; issues++ {
		medians, evens := joinedMasks(issues, most()), joinedMasks(issues, odd())
		for mask := 1; mask < 1<<(1<<issues); mask++ {
			s := spaceOfMask(issues, mask)
			_, isMedian := slices.BinarySearch(medians, mask)
			_, isEven := slices.BinarySearch(evens, mask)
			if impl.IsMedian(s) != isMedian {
				t.Fatalf("IsMedian(%v) is not %v", s, isMedian)
			}
			if impl.IsEven(s) != isEven {
				t.Fatalf("IsEven(%v) is not %v", s, isEven)
			}
		}
	}
}

func TestGapOf(t *testing.T) {
	for x := -40; x <= 40; x++ {
		for y := -40; y <= 40; y++ {
			want := -1
			if min(x, y) >= 0 && max(x, y) <= 15 {
				want = gapByWords(x, y)
			}
			if got := impl.GapOf(x, y); got != want {
				t.Fatalf("GapOf(%d, %d) = %d, want %d", x, y, got, want)
			}
		}
	}
	for _, n := range farNumbers() {
		if impl.GapOf(n, 0) != -1 || impl.GapOf(0, n) != -1 || impl.GapOf(n, n) != -1 {
			t.Errorf("GapOf of %d", n)
		}
	}
}

func TestBetweenOf(t *testing.T) {
	t.Parallel()
	someSpaces(53, func(s impl.Space) {
		for x := range 1 << s.Issues {
			for y := range 1 << s.Issues {
				var want []int
				if slices.Contains(s.All, x) && slices.Contains(s.All, y) {
					want = hullByWords(s, []int{x, y})
				}
				if got := impl.BetweenOf(s, x, y); !slices.Equal(got, want) {
					t.Fatalf("BetweenOf(%v, %d, %d) = %v, want %v", s, x, y, got, want)
				}
			}
		}
	})
	all := space(t, allFour)
	for _, n := range farNumbers() {
		wantNums(t, "BetweenOf with no judgment first", impl.BetweenOf(all, n, 0))
		wantNums(t, "BetweenOf with no judgment last", impl.BetweenOf(all, 0, n))
		wantNums(t, "BetweenOf of no judgment", impl.BetweenOf(all, n, n))
	}
}

func TestNearestTo(t *testing.T) {
	t.Parallel()
	someSpaces(7, func(s impl.Space) {
		for x := range 1 << s.Issues {
			if got, want := impl.NearestTo(s, x), nearestByWords(s, x); !slices.Equal(got, want) {
				t.Fatalf("NearestTo(%v, %d) = %v, want %v", s, x, got, want)
			}
		}
		wantNums(t, "NearestTo of one more", impl.NearestTo(s, 1<<s.Issues))
		wantNums(t, "NearestTo of one less", impl.NearestTo(s, -1))
	})
	for _, n := range farNumbers() {
		wantNums(t, "NearestTo of no judgment", impl.NearestTo(space(t, andText), n))
	}
}

func TestLeadsOf(t *testing.T) {
	t.Parallel()
	eachSpace(maxIssues, func(s impl.Space) {
		want := leadsByWords(s)
		if got := impl.LeadsOf(s); !slices.Equal(got, want) {
			t.Fatalf("LeadsOf(%v) = %v, want %v", s, got, want)
		}
		blocked := true
		for i, sum := range want {
			for j := range want {
				blocked = blocked && (i == j || answer(sum, j) == 1)
			}
		}
		if impl.IsBlocked(s) != blocked {
			t.Fatalf("IsBlocked(%v) is not %v", s, blocked)
		}
	})
	wantNums(t, "LeadsOf one judgment", impl.LeadsOf(space(t, "2:1")), 0, 0, 0, 0)
	wantNums(t, "LeadsOf all judgments", impl.LeadsOf(space(t, "1:0,1")), 0, 0)
	wantNums(t, "LeadsOf a step", impl.LeadsOf(space(t, "2:0,1,3")), 4, 0, 0, 2)
	wantNums(t, "LeadsOf steps", impl.LeadsOf(space(t, "3:0,1,3,7")), 4+16, 0, 16, 2, 0, 2+8)
	wantNums(t, "LeadsOf opposites", impl.LeadsOf(space(t, "2:1,2")), 1+8, 2+4, 2+4, 1+8)
	wantNums(t, "LeadsOf a cycle", impl.LeadsOf(space(t, cycleText)), 63, 63, 63, 63, 63, 63)
}

func TestIsBlocked(t *testing.T) {
	for _, text := range []string{cycleText, "3:0,3,5,6", "4:0,3,5,6,9,10,12,15"} {
		if !impl.IsBlocked(space(t, text)) {
			t.Errorf("IsBlocked(%s) is false", text)
		}
	}
	for _, text := range []string{andText, "1:0", "1:1", "1:0,1", "2:1,2", "4:9", allFour} {
		if impl.IsBlocked(space(t, text)) {
			t.Errorf("IsBlocked(%s) is true", text)
		}
	}
}

func TestDropIssue(t *testing.T) {
	t.Parallel()
	someSpaces(7, func(s impl.Space) {
		for j := range s.Issues {
			d, ok := impl.DropIssue(s, j)
			if s.Issues == 1 {
				wantNoSpace(t, "DropIssue of one issue", d, ok)
			} else if want := dropByWords(s, j); !ok || d.Issues != s.Issues-1 || !slices.Equal(d.All, want) {
				t.Fatalf("DropIssue(%v, %d) = %v, %v, want %v", s, j, d, ok, want)
			}
		}
		d, ok := impl.DropIssue(s, s.Issues)
		wantNoSpace(t, "DropIssue of one more", d, ok)
	})
	for _, j := range farNumbers() {
		d, ok := impl.DropIssue(space(t, andText), j)
		wantNoSpace(t, "DropIssue of no issue", d, ok)
	}
}

func TestFlipIssue(t *testing.T) {
	t.Parallel()
	someSpaces(7, func(s impl.Space) {
		for j := range s.Issues {
			d, ok := impl.FlipIssue(s, j)
			if want := flipByWords(s, j); !ok || d.Issues != s.Issues || !slices.Equal(d.All, want) {
				t.Fatalf("FlipIssue(%v, %d) = %v, %v, want %v", s, j, d, ok, want)
			}
		}
		d, ok := impl.FlipIssue(s, s.Issues)
		wantNoSpace(t, "FlipIssue of one more", d, ok)
	})
	for _, j := range farNumbers() {
		d, ok := impl.FlipIssue(space(t, andText), j)
		wantNoSpace(t, "FlipIssue of no issue", d, ok)
	}
}

func TestCrossSpaces(t *testing.T) {
	t.Parallel()
	eachSpace(2, func(a impl.Space) {
		eachSpace(3, func(b impl.Space) {
			checkCross(t, a, b)
			checkCross(t, b, a)
		})
	})
	eachSpace(maxIssues-1, func(b impl.Space) {
		d, ok := impl.CrossSpaces(spaceOfMask(maxIssues, 1), b)
		wantNoSpace(t, "CrossSpaces of more issues", d, ok)
		d, ok = impl.CrossSpaces(b, spaceOfMask(maxIssues, 1))
		wantNoSpace(t, "CrossSpaces of more issues", d, ok)
	})
}

func checkCross(t *testing.T, a impl.Space, b impl.Space) {
	t.Helper()
	d, ok := impl.CrossSpaces(a, b)
	if a.Issues+b.Issues > maxIssues {
		wantNoSpace(t, "CrossSpaces of one issue more", d, ok)
	} else if want := crossByWords(a, b); !ok || d.Issues != a.Issues+b.Issues || !slices.Equal(d.All, want) {
		t.Fatalf("CrossSpaces(%v, %v) = %v, %v, want %v", a, b, d, ok, want)
	}
}

func TestSpaceText(t *testing.T) {
	tests := []struct {
		s    impl.Space
		text string
	}{
		{impl.Space{Issues: 1, All: []int{0}}, "1:0"},
		{impl.Space{Issues: 1, All: []int{0, 1}}, "1:0,1"},
		{impl.Space{Issues: 3, All: []int{0, 1, 2, 7}}, andText},
		{impl.Space{Issues: 4, All: []int{9, 10, 15}}, "4:9,10,15"},
		{spaceOfMask(4, 1<<16-1), allFour},
	}
	for _, x := range tests {
		if got := impl.SpaceText(x.s); got != x.text {
			t.Errorf("SpaceText(%v) = %q", x.s, got)
		}
		if got, ok := impl.ParseSpace(x.text); !ok || !sameSpace(got, x.s) {
			t.Errorf("ParseSpace(%q) = %v, %v", x.text, got, ok)
		}
	}
}

func TestParseSpaceOfOtherTexts(t *testing.T) {
	texts := []string{
		"", ":", "3", "3:", ":0", "0:0", "5:0", "-1:0", "1:2", "2:4", "3:8", "4:16", "2:-1", "2:-0", "2:+1", "+2:1",
		"2:1,0", "2:0,0", "2:01", "02:1", "2:0 1", " 2:0", "2:0 ", "2: 0", "2:0,", "2:,0", "2:0,,1", "2:0:1", "2::0", "2;0",
		"2:0.1", "2:0x1", "2:1_0", "2:0\n", "2:0\x00", "a:0", "2:a", "2,0", "2:0,1,2,3,4", "4:0,1,2,3,4,5,6,7,8,9,10,11,12,13,14,15,16",
		"18446744073709551618:0", "2:18446744073709551616", "2:9223372036854775808", "\u0662:0", "2:\u0661", "two:0",
		"4:" + strings.Repeat("0,", 1000), strings.Repeat("4", 1000) + ":0",
	}
	for _, text := range texts {
		got, ok := impl.ParseSpace(text)
		wantNoSpace(t, "ParseSpace of "+strings.ToValidUTF8(text, "?"), got, ok)
	}
}

func TestHullOf(t *testing.T) {
	t.Parallel()
	someSpaces(101, func(s impl.Space) {
		for _, x := range s.All {
			wantNums(t, "HullOf one", impl.HullOf(s, []int{x}), x)
			for _, y := range s.All {
				for _, z := range s.All {
					list := []int{x, y, z}
					if got, want := impl.HullOf(s, list), hullByWords(s, list); !slices.Equal(got, want) {
						t.Fatalf("HullOf(%v, %v) = %v, want %v", s, list, got, want)
					}
				}
			}
		}
		for x := range 1 << s.Issues {
			if !slices.Contains(s.All, x) {
				wantNums(t, "HullOf no judgment of it", impl.HullOf(s, []int{x}))
				wantNums(t, "HullOf no judgment at the end", impl.HullOf(s, []int{s.All[0], x}))
				wantNums(t, "HullOf no judgment at first", impl.HullOf(s, []int{x, s.All[0]}))
			}
		}
		wantNums(t, "HullOf none", impl.HullOf(s, nil))
		wantNums(t, "HullOf an empty list", impl.HullOf(s, []int{}))
	})
	all := space(t, allFour)
	wantNums(t, "HullOf MaxParts", impl.HullOf(all, []int{0, 1, 2, 3, 4, 5, 6, 7, 0, 0}), 0, 1, 2, 3, 4, 5, 6, 7)
	wantNums(t, "HullOf MaxParts and 1", impl.HullOf(all, []int{0, 1, 2, 3, 4, 5, 6, 7, 0, 0, 0}))
	wantNums(t, "HullOf MaxParts different ones", impl.HullOf(all, all.All[:maxParts]), all.All...)
	wantNums(t, "HullOf one more different one", impl.HullOf(all, all.All[:maxParts+1]))
	for _, n := range farNumbers() {
		wantNums(t, "HullOf no judgment", impl.HullOf(all, []int{0, n}))
		wantNums(t, "HullOf no judgment ahead", impl.HullOf(all, []int{n, 0}))
	}
}

func TestClosures(t *testing.T) {
	t.Parallel()
	for issues := 1; issues <= maxIssues; issues++ {
		medians, evens := joinedMasks(issues, most()), joinedMasks(issues, odd())
		step := 1
		if issues == maxIssues {
			step = 3
		}
		for mask := 1; mask < 1<<(1<<issues); mask += step {
			s := spaceOfMask(issues, mask)
			checkLeast(t, "MedianClosure", s, impl.MedianClosure(s), medians)
			checkLeast(t, "EvenClosure", s, impl.EvenClosure(s), evens)
		}
	}
	// This one has more critical parts of two answers than SpaceWithout takes.
	if c := impl.MedianClosure(space(t, "4:0,15")); impl.SpaceText(c) != "4:0,15" {
		t.Errorf("MedianClosure = %v", c)
	}
	// These need more than one round.
	if c := impl.MedianClosure(space(t, "4:3,5,6,8")); impl.SpaceText(c) != "4:0,1,2,3,4,5,6,7,8" {
		t.Errorf("MedianClosure = %v", c)
	}
	if c := impl.EvenClosure(space(t, "4:0,1,2,4,8")); impl.SpaceText(c) != allFour {
		t.Errorf("EvenClosure = %v", c)
	}
}

func checkLeast(t *testing.T, name string, s impl.Space, got impl.Space, masks []int) {
	t.Helper()
	want, times := leastMask(masks, maskOf(s.All))
	if times != 1 {
		t.Fatalf("%s of %v: %d are least", name, s, times)
	}
	if !sameSpace(got, spaceOfMask(s.Issues, want)) {
		t.Fatalf("%s(%v) = %v, want %v", name, s, got, spaceOfMask(s.Issues, want))
	}
}
