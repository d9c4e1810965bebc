package tests

import (
	"slices"
	"testing"

	"loop.example/jointjudgments/impl"
)

func TestPromise51BallotsCanBeCut(t *testing.T) {
	t.Parallel()
	eachElection(200, func(c int, ballots []int) {
		for n := 1; n <= len(ballots); n++ {
			if !impl.ValidBallots(c, ballots[:n]) {
				t.Fatalf("ballots %v about %d names are not valid when they are cut", ballots[:n], c)
			}
		}
		if impl.ValidBallots(c, nil) {
			t.Fatal("no ballots are valid")
		}
		if impl.ValidBallots(c+1, ballots) != (c+1 <= maxNames) {
			t.Fatalf("ballots %v about %d names are valid: %v", ballots, c+1, c+1 > maxNames)
		}
		// About fewer names they are if nobody approves of the last one.
		isFor := c > 1 && !slices.ContainsFunc(ballots, func(ballot int) bool { return answer(ballot, c-1) == 1 })
		if impl.ValidBallots(c-1, ballots) != isFor {
			t.Fatalf("ballots %v about %d names are valid: %v", ballots, c-1, !isFor)
		}
	})
	for c := 1; c <= maxNames; c++ {
		for _, ballot := range noSums(c) {
			if impl.ValidBallots(c, []int{ballot}) || impl.ValidBallots(c, []int{0, ballot}) {
				t.Errorf("a ballot %d about %d names is valid", ballot, c)
			}
		}
		for n := range 20 {
			if impl.ValidBallots(c, make([]int, n)) != (n >= 1 && n <= maxBallots) {
				t.Errorf("%d ballots about %d names", n, c)
			}
		}
	}
	for _, c := range noCounts() {
		if impl.ValidBallots(c, []int{0}) {
			t.Errorf("ballots about %d names are valid", c)
		}
	}
}

func TestPromise52CommitteesAreSets(t *testing.T) {
	// A row has how many sets of one name, of two, and so on there are.
	for i, row := range [][]int{{1}, {2, 1}, {3, 3, 1}, {4, 6, 4, 1}, {5, 10, 10, 5, 1}} {
		c := i + 1
		for j, many := range row {
			k := j + 1
			committees := impl.CommitteesOf(c, k)
			wantNumber(t, "the number of committees", len(committees), many)
			for i, w := range committees {
				if w < 0 || w >= powerOf(2, c) || onesOf(w) != k || i > 0 && committees[i-1] >= w {
					t.Errorf("CommitteesOf(%d, %d) = %v", c, k, committees)
				}
			}
		}
		for _, k := range noSeats(c) {
			wantNums(t, "CommitteesOf no number of names", impl.CommitteesOf(c, k))
		}
	}
	for _, c := range noCounts() {
		for _, k := range []int{-1, 0, 1, 2, maxNames, c} {
			wantNums(t, "CommitteesOf no names", impl.CommitteesOf(c, k))
		}
	}
}

func TestPromise53ApprovalsAreThoseOfAllBallots(t *testing.T) {
	t.Parallel()
	eachElection(200, func(c int, ballots []int) {
		approvals := impl.ApprovalsOf(c, ballots)
		if len(approvals) != c {
			t.Fatalf("ApprovalsOf(%d, %v) = %v", c, ballots, approvals)
		}
		sum := 0
		for name, approval := range approvals {
			sum += approval
			if approval != scoreOf(t, "approval", c, ballots, powerOf(2, name)) {
				t.Fatalf("ApprovalsOf(%d, %v) = %v", c, ballots, approvals)
			}
		}
		if sum != scoreOf(t, "approval", c, ballots, powerOf(2, c)-1) {
			t.Fatalf("ApprovalsOf(%d, %v) = %v, together %d", c, ballots, approvals, sum)
		}
	})
	wantNums(t, "ApprovalsOf no ballots", impl.ApprovalsOf(3, nil))
	wantNums(t, "ApprovalsOf a ballot of a fourth name", impl.ApprovalsOf(3, []int{1, 8}))
	wantNums(t, "ApprovalsOf no names", impl.ApprovalsOf(0, []int{0}))
	wantNums(t, "ApprovalsOf six names", impl.ApprovalsOf(6, []int{1}))
}

func TestPromise54ScoresRiseWithNames(t *testing.T) {
	t.Parallel()
	eachElection(40, func(c int, ballots []int) {
		eachCommittee(c, func(w int) {
			checkScoresRise(t, c, ballots, w)
			approval, cover := scoreOf(t, "approval", c, ballots, w), scoreOf(t, "cover", c, ballots, w)
			harmonic, least := scoreOf(t, "harmonic", c, ballots, w), scoreOf(t, "least", c, ballots, w)
			if harmonic < 60*cover || harmonic > 60*approval || least*len(ballots) > approval {
				t.Fatalf("the scores of %d for %v are %d, %d, %d, %d", w, ballots, approval, harmonic, cover, least)
			}
			// Nobody has more than one name, or somebody does.
			if (harmonic == 60*cover) != (approval == cover) || (cover == len(ballots)) != (least > 0) {
				t.Fatalf("the scores of %d for %v are %d, %d, %d, %d", w, ballots, approval, harmonic, cover, least)
			}
		})
		for _, name := range noNames() {
			wantNoScore(t, name, c, ballots, 1)
		}
	})
	for c := 1; c <= maxNames; c++ {
		for _, w := range noSums(c) {
			wantNoScore(t, "approval", c, []int{1}, w)
			wantNoScore(t, "least", c, []int{1}, w)
		}
	}
}

// checkScoresRise checks that with one more name no score is less, and more only by the ballots that approve of it.
func checkScoresRise(t *testing.T, c int, ballots []int, w int) {
	t.Helper()
	approvals := impl.ApprovalsOf(c, ballots)
	for name := range c {
		if answer(w, name) == 1 {
			continue
		}
		for _, score := range scoresOfAll() {
			less, more := scoreOf(t, score, c, ballots, w), scoreOf(t, score, c, ballots, w+powerOf(2, name))
			if more < less || approvals[name] == 0 && more > less {
				t.Fatalf("the score %q of %d for %v is %d, but %d with the name %d", score, w, ballots, less, more, name)
			}
			if score == "approval" && more != less+approvals[name] || score == "harmonic" && (more > less) != (approvals[name] > 0) {
				t.Fatalf("the score %q of %d for %v is %d, but %d with the name %d", score, w, ballots, less, more, name)
			}
		}
	}
}

func TestPromise55TheBestHarmonicCommitteesAreJustToAllGroups(t *testing.T) {
	t.Parallel()
	eachElection(100, func(c int, ballots []int) {
		for k := 1; k <= c; k++ {
			for _, name := range scoresOfAll() {
				checkBest(t, name, c, ballots, k)
			}
			for _, w := range impl.BestOf("harmonic", c, ballots, k) {
				if !impl.IsJust("someone", c, ballots, k, w) {
					t.Fatalf("the best harmonic committee %d of %d for %v is not just by someone", w, k, ballots)
				}
			}
			for _, w := range impl.BestOf("cover", c, ballots, k) {
				if !impl.IsJust("one", c, ballots, k, w) {
					t.Fatalf("the best cover %d of %d for %v is not just by one", w, k, ballots)
				}
			}
		}
	})
	for _, name := range noNames() {
		wantNums(t, "BestOf no score", impl.BestOf(name, 3, []int{1, 2}, 2))
	}
	for _, k := range noSeats(3) {
		wantNums(t, "BestOf no number of names", impl.BestOf("harmonic", 3, []int{1, 2}, k))
	}
	wantNums(t, "BestOf no ballots", impl.BestOf("harmonic", 3, nil, 2))
	wantNums(t, "BestOf a ballot of a fourth name", impl.BestOf("cover", 3, []int{8}, 2))
}

// checkBest checks that all of BestOf have one score, and all other committees of k names less.
func checkBest(t *testing.T, name string, c int, ballots []int, k int) {
	t.Helper()
	best := impl.BestOf(name, c, ballots, k)
	committees := impl.CommitteesOf(c, k)
	if len(best) == 0 || !isAmong(best, committees) || !slices.IsSorted(best) {
		t.Fatalf("BestOf(%q, %d, %v, %d) = %v", name, c, ballots, k, best)
	}
	most := scoreOf(t, name, c, ballots, best[0])
	for _, w := range committees {
		score := scoreOf(t, name, c, ballots, w)
		if score > most || (score == most) != slices.Contains(best, w) {
			t.Fatalf("BestOf(%q, %d, %v, %d) = %v with the score %d, but %d has %d", name, c, ballots, k, best, most, w, score)
		}
	}
}

func TestPromise56GreedyCommitteesLeaveNoGreatGroupWithoutAName(t *testing.T) {
	t.Parallel()
	eachElection(100, func(c int, ballots []int) {
		for k := 1; k <= c; k++ {
			for _, name := range scoresOfAll() {
				names := impl.GreedyOf(name, c, ballots, k)
				if len(names) != k || !isAmong(names, othersOf(c, nil)) || len(othersOf(c, names)) != c-k {
					t.Fatalf("GreedyOf(%q, %d, %v, %d) = %v", name, c, ballots, k, names)
				}
				w := groupNumber(names)
				if (name == "harmonic" || name == "cover") && !impl.IsJust("one", c, ballots, k, w) {
					t.Fatalf("GreedyOf(%q, %d, %v, %d) = %v is not just by one", name, c, ballots, k, names)
				}
				if (name == "approval" || k == 1) && !slices.Contains(impl.BestOf(name, c, ballots, k), w) {
					t.Fatalf("GreedyOf(%q, %d, %v, %d) = %v is not one of the best", name, c, ballots, k, names)
				}
				// The names of fewer seats come first.
				wantNums(t, "GreedyOf fewer names", impl.GreedyOf(name, c, ballots, max(k-1, 1)), names[:max(k-1, 1)]...)
			}
		}
	})
	for _, name := range noNames() {
		wantNums(t, "GreedyOf no score", impl.GreedyOf(name, 3, []int{1, 2}, 2))
	}
	for _, k := range noSeats(3) {
		wantNums(t, "GreedyOf no number of names", impl.GreedyOf("cover", 3, []int{1, 2}, k))
	}
	wantNums(t, "GreedyOf no ballots", impl.GreedyOf("approval", 3, nil, 2))
	wantNums(t, "GreedyOf a ballot of a fourth name", impl.GreedyOf("harmonic", 3, []int{1, 8}, 2))
}

func TestPromise57WhoIsWrongedHasAClaim(t *testing.T) {
	t.Parallel()
	eachElection(20, func(c int, ballots []int) {
		eachSeated(c, func(k int, w int) {
			for _, claim := range claimsOfAll() {
				checkClaim(t, claim, c, ballots, k, w)
			}
		})
		for _, claim := range noNames() {
			wantNotAsked(t, claim, c, ballots, c, 0)
		}
	})
	for c := 1; c <= maxNames; c++ {
		for _, w := range noSums(c) {
			wantNotAsked(t, "someone", c, []int{1}, c, w)
		}
		for k := 1; k < c; k++ {
			// A committee of one name more than there are seats.
			wantNotAsked(t, "one", c, []int{powerOf(2, c-1)}, k, powerOf(2, k+1)-1)
		}
	}
}

// checkClaim checks that the group that is wronged is great enough, agrees on as many names as are due to it, and does not get them.
func checkClaim(t *testing.T, claim string, c int, ballots []int, k int, w int) {
	t.Helper()
	group, due := impl.WrongedBy(claim, c, ballots, k, w)
	if isNone := group == 0; isNone != (due == 0) || isNone != impl.IsJust(claim, c, ballots, k, w) {
		t.Fatalf("WrongedBy(%q, %d, %v, %d, %d) = %d, %d", claim, c, ballots, k, w, group, due)
	}
	if group == 0 {
		return
	}
	same, met, most := powerOf(2, c)-1, 0, 0
	for i, ballot := range ballots {
		if answer(group, i) == 1 {
			same &= ballot
			met |= ballot & w
			most = max(most, onesOf(ballot&w))
		}
	}
	isGreat := group > 0 && group < powerOf(2, len(ballots)) && onesOf(group)*k >= due*len(ballots)
	isWronged := map[string]bool{"one": due == 1 && met == 0, "together": onesOf(met) < due, "someone": most < due}[claim]
	if !isGreat || due < 1 || due > k || onesOf(same) < due || !isWronged {
		t.Fatalf("WrongedBy(%q, %d, %v, %d, %d) = %d, %d", claim, c, ballots, k, w, group, due)
	}
}

func TestPromise58ClaimsGrow(t *testing.T) {
	t.Parallel()
	eachElection(40, func(c int, ballots []int) {
		eachSeated(c, func(k int, w int) {
			one := impl.IsJust("one", c, ballots, k, w)
			together := impl.IsJust("together", c, ballots, k, w)
			someone := impl.IsJust("someone", c, ballots, k, w)
			if someone && !together || together && !one {
				t.Fatalf("the committee %d of %d for %v is just by one: %v, by together: %v, by someone: %v", w, k, ballots, one, together, someone)
			}
			// With one seat all claims are the same, and where all names are seated, or none is wanted, nobody is wronged.
			if k == 1 && one != someone || onesOf(w) == c && !someone || slices.Max(ballots) == 0 && !someone {
				t.Fatalf("the committee %d of %d for %v is just by one: %v, by together: %v, by someone: %v", w, k, ballots, one, together, someone)
			}
			// The committee of nobody wrongs who is due one name, whatever is claimed.
			if w == 0 && one != someone {
				t.Fatalf("the committee of nobody, of %d for %v, is just by one: %v, by someone: %v", k, ballots, one, someone)
			}
		})
		for _, claim := range noNames() {
			// Nobody is wronged by all names, but there is no such claim.
			wantNotAsked(t, claim, c, ballots, c, powerOf(2, c)-1)
		}
		for k := 1; k < c; k++ {
			wantNotAsked(t, "someone", c, ballots, k, powerOf(2, c)-1)
		}
	})
}
