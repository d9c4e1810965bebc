package tests

import (
	"math"
	"slices"
	"sync"
	"testing"

	"loop.example/jointjudgments/impl"
)

// checkNoBallots checks the fixed result of each function for what are no ballots about c names.
func checkNoBallots(t *testing.T, c int, ballots []int) {
	t.Helper()
	if impl.ValidBallots(c, ballots) {
		t.Errorf("ballots %v about %d names are valid", ballots, c)
	}
	wantNums(t, "ApprovalsOf", impl.ApprovalsOf(c, ballots))
	for _, k := range []int{1, 2, maxNames, c, c - 1, 0, -1} {
		for _, name := range scoresOfAll() {
			wantNums(t, "BestOf", impl.BestOf(name, c, ballots, k))
			wantNums(t, "GreedyOf", impl.GreedyOf(name, c, ballots, k))
		}
		for _, w := range []int{0, 1, 2, 3, 31, -1, math.MaxInt} {
			for _, claim := range claimsOfAll() {
				wantNotAsked(t, claim, c, ballots, k, w)
			}
			for _, name := range scoresOfAll() {
				wantNoScore(t, name, c, ballots, w)
			}
		}
	}
}

func TestBallotsThatAreNotValid(t *testing.T) {
	for c := 1; c <= maxNames; c++ {
		for _, n := range []int{0, maxBallots + 1, maxBallots + 2, 63, 64, 65, 1000} {
			for _, ballot := range []int{0, 1} {
				checkNoBallots(t, c, slices.Repeat([]int{ballot}, n))
			}
		}
		checkNoBallots(t, c, nil)
		for _, other := range noSums(c) {
			// One that is not valid is enough.
			for n := 1; n <= maxBallots; n++ {
				for i := range n {
					ballots := slices.Repeat([]int{1}, n)
					ballots[i] = other
					checkNoBallots(t, c, ballots)
				}
			}
		}
	}
	for _, c := range noCounts() {
		checkNoBallots(t, c, nil)
		for _, ballots := range [][]int{{0}, {1}, {0, 0, 0}, {31, 1}, {32}, {-1}, {math.MaxInt}} {
			checkNoBallots(t, c, ballots)
		}
	}
}

func TestBallotsAtTheLimits(t *testing.T) {
	all := powerOf(2, maxNames) - 1
	ballots := slices.Repeat([]int{all}, maxBallots)
	wantNums(t, "ApprovalsOf", impl.ApprovalsOf(maxNames, ballots), maxBallots, maxBallots, maxBallots, maxBallots, maxBallots)
	for _, name := range scoresOfAll() {
		wantNums(t, "BestOf "+name, impl.BestOf(name, maxNames, ballots, maxNames), all)
		wantNums(t, "GreedyOf "+name, impl.GreedyOf(name, maxNames, ballots, maxNames), 0, 1, 2, 3, 4)
	}
	for _, claim := range claimsOfAll() {
		group, due := impl.WrongedBy(claim, maxNames, ballots, maxNames, 0)
		wantNums(t, "WrongedBy "+claim, []int{group, due}, 3, 1)
		if !impl.IsJust(claim, maxNames, ballots, maxNames, all) {
			t.Errorf("the committee of all names is not just by %s", claim)
		}
	}
}

func TestNumbersOfSeatsThatAreNotValid(t *testing.T) {
	for c := 1; c <= maxNames; c++ {
		for _, ballots := range [][]int{{0}, {1, 1}, {powerOf(2, c) - 1}} {
			for _, k := range noSeats(c) {
				wantNums(t, "CommitteesOf", impl.CommitteesOf(c, k))
				for _, name := range scoresOfAll() {
					wantNums(t, "BestOf", impl.BestOf(name, c, ballots, k))
					wantNums(t, "GreedyOf", impl.GreedyOf(name, c, ballots, k))
				}
				for _, claim := range claimsOfAll() {
					wantNotAsked(t, claim, c, ballots, k, 0)
					wantNotAsked(t, claim, c, ballots, k, powerOf(2, c)-1)
				}
			}
		}
	}
}

func TestCommitteesThatAreNotValid(t *testing.T) {
	for c := 1; c <= maxNames; c++ {
		for _, ballots := range [][]int{{0}, {1, 1}, {powerOf(2, c) - 1}} {
			for _, w := range noSums(c) {
				for _, name := range scoresOfAll() {
					wantNoScore(t, name, c, ballots, w)
				}
				for k := 1; k <= c; k++ {
					for _, claim := range claimsOfAll() {
						wantNotAsked(t, claim, c, ballots, k, w)
					}
				}
			}
			// A committee may have fewer names than there are seats, but not more.
			for k := 1; k <= c; k++ {
				eachCommittee(c, func(w int) {
					for _, claim := range claimsOfAll() {
						if onesOf(w) > k {
							wantNotAsked(t, claim, c, ballots, k, w)
						} else if group, _ := impl.WrongedBy(claim, c, ballots, k, w); (group == 0) != impl.IsJust(claim, c, ballots, k, w) {
							t.Errorf("IsJust(%q, %d, %v, %d, %d)", claim, c, ballots, k, w)
						}
					}
				})
			}
		}
	}
}

func TestNamesOfScoresAndClaimsThatThereAreNot(t *testing.T) {
	for c := 1; c <= maxNames; c++ {
		for _, ballots := range [][]int{{0}, {1, 1}, {powerOf(2, c) - 1}} {
			// Claims are no scores, and scores are no claims.
			for _, name := range append(noNames(), claimsOfAll()...) {
				for k := 1; k <= c; k++ {
					wantNums(t, "BestOf "+name, impl.BestOf(name, c, ballots, k))
					wantNums(t, "GreedyOf "+name, impl.GreedyOf(name, c, ballots, k))
				}
				eachCommittee(c, func(w int) { wantNoScore(t, name, c, ballots, w) })
			}
			for _, claim := range append(noNames(), scoresOfAll()...) {
				eachSeated(c, func(k int, w int) { wantNotAsked(t, claim, c, ballots, k, w) })
			}
		}
	}
}

// TestMemoryOfBallots checks that no function changes its arguments, keeps them, or gives parts of them out.
func TestMemoryOfBallots(t *testing.T) {
	calls := map[string]func(ballots []int) []int{
		"ValidBallots": func(ballots []int) []int { impl.ValidBallots(3, ballots); return nil },
		"CommitteesOf": func(ballots []int) []int { return impl.CommitteesOf(3, 2) },
		"ApprovalsOf":  func(ballots []int) []int { return impl.ApprovalsOf(3, ballots) },
	}
	for _, name := range scoresOfAll() {
		calls["ScoreOf "+name] = func(ballots []int) []int { score, _ := impl.ScoreOf(name, 3, ballots, 5); return []int{score} }
		calls["BestOf "+name] = func(ballots []int) []int { return impl.BestOf(name, 3, ballots, 2) }
		calls["BestOf all names "+name] = func(ballots []int) []int { return impl.BestOf(name, 3, ballots, 3) }
		calls["GreedyOf "+name] = func(ballots []int) []int { return impl.GreedyOf(name, 3, ballots, 3) }
	}
	for _, claim := range claimsOfAll() {
		calls["WrongedBy "+claim] = func(ballots []int) []int {
			group, due := impl.WrongedBy(claim, 3, ballots, 2, 4)
			return []int{group, due}
		}
		calls["IsJust "+claim] = func(ballots []int) []int { impl.IsJust(claim, 3, ballots, 2, 4); return nil }
	}
	for _, ballots := range [][]int{{0}, {7, 3, 1}, {1, 1, 1, 2, 4, 4}, {3, 3}, {7, 7, 7, 7, 7, 7}, {5, 0}} {
		for name, call := range calls {
			list, memory := filled(ballots)
			before := slices.Clone(memory)
			got := call(list)
			want := slices.Clone(got)
			spoil(got)
			if !slices.Equal(memory, before) {
				t.Errorf("%s: the argument %v is changed, or given out: %v", name, before, memory)
			}
			wantNums(t, name+" once more", call(list), want...)
		}
	}
}

// TestElectionsAtTheSameTime checks that calls that run at the same time do not change each other's results.
func TestElectionsAtTheSameTime(t *testing.T) {
	var calls sync.WaitGroup
	ballots := []int{7, 7, 7, 8}
	for range 20 {
		calls.Go(func() {
			wantNums(t, "BestOf", impl.BestOf("harmonic", 4, ballots, 3), 7, 11, 13, 14)
			wantNums(t, "GreedyOf", impl.GreedyOf("cover", 4, ballots, 3), 0, 3, 1)
			group, due := impl.WrongedBy("someone", 4, ballots, 3, 9)
			wantNums(t, "WrongedBy", []int{group, due}, 7, 2)
		})
	}
	calls.Wait()
}
