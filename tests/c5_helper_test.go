package tests

import (
	"math"
	"slices"
	"testing"

	"loop.example/jointjudgments/impl"
)

// The limits are written out, so that a changed constant is noticed.
const (
	maxNames   = 5
	maxBallots = 6
)

// scoresOfAll returns the names of all scores.
func scoresOfAll() []string {
	return []string{"approval", "harmonic", "cover", "least"}
}

// claimsOfAll returns the names of all claims, those that ask for more last.
func claimsOfAll() []string {
	return []string{"one", "together", "someone"}
}

// noNames returns texts that are no name of a score or of a claim.
func noNames() []string {
	return []string{"", " ", "none", "most", "all", "Approval", "HARMONIC", "One", "approvals", "approva", " cover", "cover ", "least\n", "ones", "some one", "to gether", "someone\x00", "0", "1"}
}

// edgeBallots returns ballots about c names that approve of nobody, or of all names, or of one name each, and some of such.
func edgeBallots(c int) [][]int {
	var lists [][]int
	all := powerOf(2, c) - 1
	for n := 1; n <= maxBallots; n++ {
		one := make([]int, n)
		for i := range one {
			one[i] = powerOf(2, i%c)
		}
		for _, ballot := range []int{0, all} {
			last := slices.Repeat([]int{ballot}, n)
			first := slices.Repeat([]int{ballot}, n)
			last[n-1], first[0] = all-ballot, all-ballot
			halves := slices.Repeat([]int{ballot}, n)
			for i := range n / 2 {
				halves[i] = 1
			}
			lists = append(lists, slices.Repeat([]int{ballot}, n), last, first, halves)
		}
		lists = append(lists, one)
	}
	return lists
}

// someBallots calls visit with the edge ballots about c names, and of each number of ballots with all if these are at most
// most, and about as many otherwise.
func someBallots(c int, most int, visit func(ballots []int)) {
	for _, ballots := range edgeBallots(c) {
		visit(ballots)
	}
	for n := 1; n <= maxBallots; n++ {
		someNums(n, powerOf(2, c)-1, most, visit)
	}
}

// eachElection calls visit with ballots about each number of names, as someBallots.
func eachElection(most int, visit func(c int, ballots []int)) {
	for c := 1; c <= maxNames; c++ {
		someBallots(c, most, func(ballots []int) { visit(c, ballots) })
	}
}

// eachCommittee calls visit with all committees of c names, that of none and that of all among them.
func eachCommittee(c int, visit func(w int)) {
	for w := range powerOf(2, c) {
		visit(w)
	}
}

// eachSeated calls visit with all numbers of seats, and all committees that have at most as many of c names.
func eachSeated(c int, visit func(k int, w int)) {
	for k := 1; k <= c; k++ {
		eachCommittee(c, func(w int) {
			if onesOf(w) <= k {
				visit(k, w)
			}
		})
	}
}

// scoreOf returns the score of a name, which there is.
func scoreOf(t *testing.T, name string, c int, ballots []int, w int) int {
	t.Helper()
	score, ok := impl.ScoreOf(name, c, ballots, w)
	if !ok || score < 0 {
		t.Fatalf("ScoreOf(%q, %d, %v, %d) = %d, %v", name, c, ballots, w, score, ok)
	}
	return score
}

// wantNoScore checks that there is 0 and false.
func wantNoScore(t *testing.T, name string, c int, ballots []int, w int) {
	t.Helper()
	if score, ok := impl.ScoreOf(name, c, ballots, w); ok || score != 0 {
		t.Errorf("ScoreOf(%q, %d, %v, %d) = %d, %v, want none", name, c, ballots, w, score, ok)
	}
}

// wantNotAsked checks the fixed results for arguments that are none of a claim and of a committee of at most k names.
func wantNotAsked(t *testing.T, claim string, c int, ballots []int, k int, w int) {
	t.Helper()
	if group, due := impl.WrongedBy(claim, c, ballots, k, w); group != 0 || due != 0 {
		t.Errorf("WrongedBy(%q, %d, %v, %d, %d) = %d, %d, want none", claim, c, ballots, k, w, group, due)
	}
	if impl.IsJust(claim, c, ballots, k, w) {
		t.Errorf("IsJust(%q, %d, %v, %d, %d)", claim, c, ballots, k, w)
	}
}

// noSums returns numbers that are no sum of 2 to some of c names each.
func noSums(c int) []int {
	all := powerOf(2, c)
	return []int{-1, -2, -all, all, all + 1, 2*all - 1, 2 * all, 64, math.MaxInt, math.MinInt}
}

// noSeats returns numbers that no committee of c names has.
func noSeats(c int) []int {
	return []int{0, -1, -c, c + 1, c + 2, maxNames + 1, 63, 64, math.MaxInt, math.MinInt}
}

// noCounts returns numbers of names that there are not.
func noCounts() []int {
	return []int{0, -1, -maxNames, maxNames + 1, maxNames + 2, 62, 63, 64, 65, math.MaxInt, math.MinInt}
}
