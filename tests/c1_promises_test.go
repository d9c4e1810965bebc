package tests

import (
	"slices"
	"testing"

	"loop.example/jointjudgments/impl"
)

func TestPromise1SpacesCanBeFlipped(t *testing.T) {
	t.Parallel()
	someSpaces(5, func(s impl.Space) {
		if !impl.ValidSpace(s) {
			t.Fatalf("ValidSpace(%v) is false", s)
		}
		for _, x := range s.All {
			if !impl.InSpace(s, x) {
				t.Fatalf("InSpace(%v, %d) is false", s, x)
			}
		}
		for j := range s.Issues {
			d, ok := impl.FlipIssue(s, j)
			if !ok || !impl.ValidSpace(d) {
				t.Fatalf("FlipIssue(%v, %d) = %v, %v", s, j, d, ok)
			}
		}
	})
	// Of what is no space, nothing is flipped or had.
	for _, s := range invalidSpaces() {
		if _, ok := impl.FlipIssue(s, 0); ok || impl.ValidSpace(s) || len(s.All) > 0 && impl.InSpace(s, s.All[0]) {
			t.Errorf("%v passes for a space", s)
		}
	}
}

func TestPromise2JudgmentsAreNearestToThemselves(t *testing.T) {
	t.Parallel()
	eachSpace(maxIssues, func(s impl.Space) {
		for x := range 1 << s.Issues {
			alone := slices.Equal(impl.NearestTo(s, x), []int{x})
			if alone != impl.InSpace(s, x) || alone != slices.Contains(s.All, x) {
				t.Fatalf("NearestTo(%v, %d) = %v, InSpace = %v", s, x, impl.NearestTo(s, x), impl.InSpace(s, x))
			}
		}
	})
}

func TestPromise3PartsAreOfTheirIssues(t *testing.T) {
	t.Parallel()
	for issues := 1; issues <= maxIssues; issues++ {
		s := spaceOfMask(issues, 1)
		for care := -20; care <= 20; care++ {
			for bits := -20; bits <= 20; bits++ {
				if !impl.ValidPart(s, impl.Part{Care: care, Bits: bits}) {
					continue
				}
				for j := range issues {
					if bits < 0 || care < 0 || care >= 1<<issues || answer(bits, j) > answer(care, j) {
						t.Fatalf("ValidPart(%v, %d, %d) is true", s, care, bits)
					}
				}
			}
		}
	}
	someSpaces(5, func(s impl.Space) {
		for _, x := range s.All {
			for care := range 1 << s.Issues {
				if p := (impl.Part{Care: care, Bits: x & care}); !impl.ValidPart(s, p) || !impl.IsOpen(s, p) {
					t.Fatalf("IsOpen(%v, %v) is false", s, p)
				}
			}
		}
	})
}

func TestPromise4WhatIsNotOpenHasACriticalPart(t *testing.T) {
	t.Parallel()
	someSpaces(5, func(s impl.Space) {
		parts := impl.CriticalParts(s)
		eachPart(s.Issues, func(p impl.Part) {
			has := slices.ContainsFunc(parts, func(c impl.Part) bool {
				return c.Care&p.Care == c.Care && gives(s.Issues, p.Bits, c)
			})
			if impl.IsOpen(s, p) == has {
				t.Fatalf("IsOpen(%v, %v) = %v, but critical are %v", s, p, !has, parts)
			}
		})
	})
}

func TestPromise5CriticalPartsTellTheSpace(t *testing.T) {
	t.Parallel()
	most := 0
	eachSpace(maxIssues, func(s impl.Space) {
		parts := impl.CriticalParts(s)
		most = max(most, len(parts))
		for _, p := range parts {
			if !impl.ValidPart(s, p) || impl.IsOpen(s, p) {
				t.Fatalf("CriticalParts(%v) has %v", s, p)
			}
		}
		d, ok := impl.SpaceWithout(s.Issues, parts)
		if len(parts) > maxParts {
			wantNoSpace(t, "SpaceWithout more than MaxParts", d, ok)
		} else if !ok || !sameSpace(d, s) {
			t.Fatalf("SpaceWithout(%v) = %v, %v, want %v", parts, d, ok, s)
		}
	})
	if most <= maxParts {
		t.Errorf("no space has more than %d critical parts", maxParts)
	}
}

func TestPromise6SpacesHaveNoPartThatIsLeftOut(t *testing.T) {
	t.Parallel()
	for issues := 1; issues <= maxIssues; issues++ {
		var all []impl.Part
		eachPart(issues, func(p impl.Part) { all = append(all, p) })
		for n := 0; n <= maxParts; n++ {
			for start := range all {
				for step := 1; step < 18; step += 4 {
					var parts []impl.Part
					for i := range n {
						parts = append(parts, all[(start+i*step)%len(all)])
					}
					checkLeftOut(t, issues, parts)
				}
			}
		}
	}
}

func checkLeftOut(t *testing.T, issues int, parts []impl.Part) {
	t.Helper()
	d, ok := impl.SpaceWithout(issues, parts)
	for x := range 1 << issues {
		has := slices.ContainsFunc(parts, func(p impl.Part) bool { return gives(issues, x, p) })
		if has == slices.Contains(d.All, x) {
			t.Fatalf("SpaceWithout(%d, %v) = %v, %v", issues, parts, d, ok)
		}
	}
	if ok != impl.ValidSpace(d) || ok && d.Issues != issues {
		t.Fatalf("SpaceWithout(%d, %v) = %v, %v", issues, parts, d, ok)
	}
	for _, p := range parts {
		if ok && impl.IsOpen(d, p) {
			t.Fatalf("%v is open in SpaceWithout(%d, %v)", p, issues, parts)
		}
	}
}

func TestPromise7MedianSpacesHaveSmallCriticalParts(t *testing.T) {
	t.Parallel()
	eachSpace(maxIssues, func(s impl.Space) {
		greater := slices.ContainsFunc(impl.CriticalParts(s), func(p impl.Part) bool { return sizeOf(p) > 2 })
		if impl.IsMedian(s) == greater {
			t.Fatalf("IsMedian(%v) = %v", s, !greater)
		}
	})
}

func TestPromise8EvenSpacesAreAsManyAsAPowerOfTwo(t *testing.T) {
	t.Parallel()
	times := map[int]int{}
	eachSpace(maxIssues, func(s impl.Space) {
		if impl.IsEven(s) {
			times[len(s.All)]++
		}
	})
	// These are the numbers of such spaces: of one judgment, of any two, of planes, of two halves, and of all, for 1 to 4 issues.
	want := map[int]int{1: 2 + 4 + 8 + 16, 2: 1 + 6 + 28 + 120, 4: 1 + 14 + 140, 8: 1 + 30, 16: 1}
	for n, many := range times {
		if many != want[n] {
			t.Errorf("%d even spaces of %d judgments, want %d", many, n, want[n])
		}
	}
	if len(times) != len(want) {
		t.Errorf("even spaces are %v", times)
	}
}

func TestPromise9GapsAreDistances(t *testing.T) {
	t.Parallel()
	for x := range 1 << maxIssues {
		for y := range 1 << maxIssues {
			gap := impl.GapOf(x, y)
			if gap != impl.GapOf(y, x) || (gap == 0) != (x == y) || gap < 0 {
				t.Errorf("GapOf(%d, %d) = %d", x, y, gap)
			}
			for z := range 1 << maxIssues {
				if gap > impl.GapOf(x, z)+impl.GapOf(z, y) {
					t.Errorf("GapOf(%d, %d) = %d, more than over %d", x, y, gap, z)
				}
			}
		}
	}
	if impl.GapOf(0, 15) != 4 || impl.GapOf(0, 16) != -1 || impl.GapOf(16, 16) != -1 || impl.GapOf(-1, -1) != -1 {
		t.Error("GapOf at the limit")
	}
}

func TestPromise10BetweenLiesWhatBothSay(t *testing.T) {
	t.Parallel()
	someSpaces(31, func(s impl.Space) {
		for _, x := range s.All {
			for _, y := range s.All {
				list := impl.BetweenOf(s, x, y)
				if !slices.Contains(list, x) || !slices.Contains(list, y) || !slices.Equal(list, impl.BetweenOf(s, y, x)) {
					t.Fatalf("BetweenOf(%v, %d, %d) = %v", s, x, y, list)
				}
				for _, z := range s.All {
					both := true
					for j := range s.Issues {
						both = both && (answer(x, j) != answer(y, j) || answer(z, j) == answer(x, j))
					}
					if both != slices.Contains(list, z) {
						t.Fatalf("BetweenOf(%v, %d, %d) = %v, but %d", s, x, y, list, z)
					}
				}
			}
		}
	})
}

func TestPromise11TheNearestAreEquallyNear(t *testing.T) {
	t.Parallel()
	someSpaces(5, func(s impl.Space) {
		for x := range 1 << s.Issues {
			list := impl.NearestTo(s, x)
			if len(list) == 0 || !slices.IsSorted(list) {
				t.Fatalf("NearestTo(%v, %d) = %v", s, x, list)
			}
			gap := impl.GapOf(x, list[0])
			for _, y := range s.All {
				is := slices.Contains(list, y)
				if is && impl.GapOf(x, y) != gap || !is && impl.GapOf(x, y) <= gap {
					t.Fatalf("NearestTo(%v, %d) = %v, but %d", s, x, list, y)
				}
			}
		}
	})
}

func TestPromise12LeadsTurnRound(t *testing.T) {
	t.Parallel()
	some := false
	eachSpace(maxIssues, func(s impl.Space) {
		leads := impl.LeadsOf(s)
		if len(leads) != 2*s.Issues {
			t.Fatalf("LeadsOf(%v) = %v", s, leads)
		}
		for a := range leads {
			for b := range leads {
				// The other answer to an issue stands beside the one.
				round := answer(leads[4*(b/2)+1-b], 4*(a/2)+1-a)
				if answer(leads[a], b) != round {
					t.Fatalf("LeadsOf(%v) = %v: %d to %d", s, leads, a, b)
				}
				some = some || round == 1
			}
		}
	})
	if !some {
		t.Error("no answer leads to another one")
	}
}

func TestPromise13BlockedSpacesAreNotMedian(t *testing.T) {
	t.Parallel()
	blocked := map[int]int{}
	eachSpace(maxIssues, func(s impl.Space) {
		is := impl.IsBlocked(s)
		if is {
			blocked[s.Issues]++
		}
		if is && impl.IsMedian(s) {
			t.Fatalf("%v is blocked and median", s)
		}
		for j := range s.Issues {
			if d, ok := impl.FlipIssue(s, j); !ok || impl.IsBlocked(d) != is {
				t.Fatalf("IsBlocked(%v) is changed by a flip of %d", s, j)
			}
		}
	})
	if blocked[1] != 0 || blocked[2] != 0 || blocked[3] == 0 || blocked[4] == 0 {
		t.Errorf("blocked spaces are %v", blocked)
	}
}

func TestPromise14WithoutAnIssueThereAreNoMoreJudgments(t *testing.T) {
	t.Parallel()
	eachSpace(maxIssues, func(s impl.Space) {
		median := impl.IsMedian(s)
		for j := range s.Issues {
			d, ok := impl.DropIssue(s, j)
			if ok != (s.Issues > 1) {
				t.Fatalf("DropIssue(%v, %d) = %v, %v", s, j, d, ok)
			}
			if !ok {
				continue
			}
			if !impl.ValidSpace(d) || len(d.All) > len(s.All) || 2*len(d.All) < len(s.All) || median && !impl.IsMedian(d) {
				t.Fatalf("DropIssue(%v, %d) = %v", s, j, d)
			}
		}
	})
}

func TestPromise15FlippedTwiceIsAsBefore(t *testing.T) {
	t.Parallel()
	eachSpace(maxIssues, func(s impl.Space) {
		for j := range s.Issues {
			d, ok := impl.FlipIssue(s, j)
			if !ok || impl.IsMedian(d) != impl.IsMedian(s) || impl.IsEven(d) != impl.IsEven(s) {
				t.Fatalf("FlipIssue(%v, %d) = %v, %v", s, j, d, ok)
			}
			if back, ok := impl.FlipIssue(d, j); !ok || !sameSpace(back, s) {
				t.Fatalf("FlipIssue(%v, %d) twice = %v, %v", s, j, back, ok)
			}
		}
	})
}

func TestPromise16CrossedSpacesHaveBothCriticalParts(t *testing.T) {
	t.Parallel()
	eachSpace(2, func(a impl.Space) {
		eachSpace(3, func(b impl.Space) {
			for _, pair := range [][2]impl.Space{{a, b}, {b, a}} {
				d, ok := impl.CrossSpaces(pair[0], pair[1])
				if ok != (a.Issues+b.Issues <= maxIssues) {
					t.Fatalf("CrossSpaces(%v) = %v, %v", pair, d, ok)
				}
				if ok && (len(d.All) != len(a.All)*len(b.All) || impl.IsBlocked(d) || len(impl.CriticalParts(d)) != len(impl.CriticalParts(a))+len(impl.CriticalParts(b))) {
					t.Fatalf("CrossSpaces(%v) = %v", pair, d)
				}
			}
		})
	})
}

func TestPromise17HullsAreClosed(t *testing.T) {
	t.Parallel()
	someSpaces(211, func(s impl.Space) {
		for _, x := range s.All {
			for _, y := range s.All {
				if hull := impl.HullOf(s, []int{x, y}); !slices.Equal(hull, impl.BetweenOf(s, x, y)) {
					t.Fatalf("HullOf(%v, %d and %d) = %v", s, x, y, hull)
				}
				for _, z := range s.All {
					checkHull(t, s, []int{x, y, z})
				}
			}
		}
		checkHull(t, s, s.All[:min(len(s.All), maxParts)])
	})
}

func checkHull(t *testing.T, s impl.Space, list []int) {
	t.Helper()
	hull := impl.HullOf(s, list)
	for _, x := range list {
		if !slices.Contains(hull, x) {
			t.Fatalf("HullOf(%v, %v) = %v", s, list, hull)
		}
	}
	if len(hull) <= maxParts && !slices.Equal(impl.HullOf(s, hull), hull) {
		t.Fatalf("HullOf(%v, %v) = %v is not its own", s, list, hull)
	}
}

func TestPromise18LeastMedianSpacesHaveTheSmallCriticalParts(t *testing.T) {
	t.Parallel()
	many := 0
	eachSpace(maxIssues, func(s impl.Space) {
		c := impl.MedianClosure(s)
		if !impl.IsMedian(c) || sameSpace(c, s) != impl.IsMedian(s) {
			t.Fatalf("MedianClosure(%v) = %v", s, c)
		}
		small := slices.DeleteFunc(impl.CriticalParts(s), func(p impl.Part) bool { return sizeOf(p) > 2 })
		if len(small) > maxParts {
			many++
			return
		}
		if d, ok := impl.SpaceWithout(s.Issues, small); !ok || !sameSpace(d, c) {
			t.Fatalf("MedianClosure(%v) = %v, but SpaceWithout(%v) = %v", s, c, small, d)
		}
	})
	// The closure is the same where SpaceWithout takes no more parts, as for two opposite judgments.
	if c := impl.MedianClosure(space(t, "4:0,15")); many == 0 || impl.SpaceText(c) != "4:0,15" {
		t.Errorf("MedianClosure = %v", c)
	}
}

func TestPromise19LeastEvenSpaces(t *testing.T) {
	t.Parallel()
	eachSpace(maxIssues, func(s impl.Space) {
		c := impl.EvenClosure(s)
		if !impl.IsEven(c) || sameSpace(c, s) != impl.IsEven(s) || maskOf(c.All)&maskOf(s.All) != maskOf(s.All) {
			t.Fatalf("EvenClosure(%v) = %v", s, c)
		}
		// Each judgment after the first at most doubles them.
		if len(s.All) < 5 && len(c.All) > 1<<(len(s.All)-1) {
			t.Fatalf("EvenClosure(%v) = %v is too great", s, c)
		}
	})
}

func TestPromise20SpacesAreReadBack(t *testing.T) {
	t.Parallel()
	eachSpace(maxIssues, func(s impl.Space) {
		text := impl.SpaceText(s)
		if d, ok := impl.ParseSpace(text); !ok || !sameSpace(d, s) {
			t.Fatalf("ParseSpace(%q) = %v, %v, want %v", text, d, ok, s)
		}
	})
}

func TestPromise21TextsOfSpacesAreWrittenBack(t *testing.T) {
	t.Parallel()
	const letters = "0123:,+- "
	texts := []string{""}
	some := 0
	for size := 1; size <= 5; size++ {
		var longer []string
		for _, text := range texts {
			for _, letter := range letters {
				longer = append(longer, text+string(letter))
			}
		}
		texts = longer
		for _, text := range texts {
			d, ok := impl.ParseSpace(text)
			if !ok {
				wantNoSpace(t, "ParseSpace", d, ok)
				continue
			}
			some++
			if !impl.ValidSpace(d) || impl.SpaceText(d) != text {
				t.Fatalf("ParseSpace(%q) = %v", text, d)
			}
		}
	}
	// One judgment, or two ascending ones, of the digits 0 to 3, for one to three issues.
	if some != 2+4+4+1+6+6 {
		t.Errorf("%d texts are spaces", some)
	}
}
