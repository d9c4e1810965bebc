package tests

import (
	"slices"
	"testing"

	"loop.example/jointjudgments/impl"
)

func TestLimitsOfBallots(t *testing.T) {
	wantNumber(t, "MaxNames", impl.MaxNames, maxNames)
	wantNumber(t, "MaxBallots", impl.MaxBallots, maxBallots)
}

func TestValidBallots(t *testing.T) {
	eachElection(100, func(c int, ballots []int) {
		if !impl.ValidBallots(c, ballots) {
			t.Fatalf("ballots %v about %d names are not valid", ballots, c)
		}
	})
	for _, x := range []struct {
		c       int
		ballots []int
		isValid bool
	}{
		{1, []int{0}, true}, {1, []int{1}, true}, {1, []int{2}, false}, {2, []int{3, 0, 3}, true}, {2, []int{3, 0, 4}, false},
		{5, []int{31, 31, 31, 31, 31, 31}, true}, {5, []int{32}, false}, {4, []int{16}, false}, {5, []int{16}, true},
		{5, []int{0, 0, 0, 0, 0, 0, 0}, false}, {5, nil, false}, {5, []int{}, false}, {3, []int{1, -1}, false}, {0, []int{0}, false}, {6, []int{0}, false},
	} {
		if impl.ValidBallots(x.c, x.ballots) != x.isValid {
			t.Errorf("ValidBallots(%d, %v) = %v", x.c, x.ballots, !x.isValid)
		}
	}
}

func TestCommitteesOfByWords(t *testing.T) {
	for c := 1; c <= maxNames; c++ {
		for k := 1; k <= c; k++ {
			wantNums(t, "CommitteesOf", impl.CommitteesOf(c, k), committeesByWords(c, k)...)
		}
	}
	wantNums(t, "CommitteesOf one of one", impl.CommitteesOf(1, 1), 1)
	wantNums(t, "CommitteesOf two of four", impl.CommitteesOf(4, 2), 3, 5, 6, 9, 10, 12)
	wantNums(t, "CommitteesOf four of five", impl.CommitteesOf(5, 4), 15, 23, 27, 29, 30)
	wantNums(t, "CommitteesOf all of five", impl.CommitteesOf(5, 5), 31)
}

func TestApprovalsOfByWords(t *testing.T) {
	eachElection(100, func(c int, ballots []int) {
		want := make([]int, c)
		for _, ballot := range ballots {
			for _, name := range namesIn(ballot) {
				want[name]++
			}
		}
		if got := impl.ApprovalsOf(c, ballots); !slices.Equal(got, want) {
			t.Fatalf("ApprovalsOf(%d, %v) = %v, want %v", c, ballots, got, want)
		}
	})
	wantNums(t, "ApprovalsOf nobody", impl.ApprovalsOf(3, []int{0, 0}), 0, 0, 0)
	wantNums(t, "ApprovalsOf all names", impl.ApprovalsOf(5, slices.Repeat([]int{31}, 6)), 6, 6, 6, 6, 6)
	wantNums(t, "ApprovalsOf fewer names", impl.ApprovalsOf(5, []int{1, 3}), 2, 1, 0, 0, 0)
}

func TestScoreOfByWords(t *testing.T) {
	t.Parallel()
	eachElection(40, func(c int, ballots []int) {
		eachCommittee(c, func(w int) {
			for _, name := range scoresOfAll() {
				want := scoreByWords(name, ballots, w)
				if got := scoreOf(t, name, c, ballots, w); !isFraction(got, 1, want) {
					t.Fatalf("ScoreOf(%q, %d, %v, %d) = %d, want %v", name, c, ballots, w, got, want)
				}
			}
		})
	})
}

func TestBestOfAndGreedyOfByWords(t *testing.T) {
	t.Parallel()
	eachElection(30, func(c int, ballots []int) {
		for k := 1; k <= c; k++ {
			for _, name := range scoresOfAll() {
				if got, want := impl.BestOf(name, c, ballots, k), bestCommitteesByWords(name, c, ballots, k); !slices.Equal(got, want) {
					t.Fatalf("BestOf(%q, %d, %v, %d) = %v, want %v", name, c, ballots, k, got, want)
				}
				if got, want := impl.GreedyOf(name, c, ballots, k), greedyByWords(name, c, ballots, k); !slices.Equal(got, want) {
					t.Fatalf("GreedyOf(%q, %d, %v, %d) = %v, want %v", name, c, ballots, k, got, want)
				}
			}
		}
	})
}

func TestWrongedByByWords(t *testing.T) {
	t.Parallel()
	eachElection(20, func(c int, ballots []int) {
		due := make([][]dueGroup, c+1)
		for k := range due {
			due[k] = dueByWords(c, ballots, k)
		}
		eachSeated(c, func(k int, w int) {
			for _, claim := range claimsOfAll() {
				group, l := impl.WrongedBy(claim, c, ballots, k, w)
				want, wantDue := firstWrongedByWords(claim, ballots, due[k], w)
				if group != want || l != wantDue || impl.IsJust(claim, c, ballots, k, w) != (want == 0) {
					t.Fatalf("WrongedBy(%q, %d, %v, %d, %d) = %d, %d, want %d, %d", claim, c, ballots, k, w, group, l, want, wantDue)
				}
			}
		})
	})
}

// TestScoreOf has scores that are counted by hand, in the order of scoresOfAll.
func TestScoreOf(t *testing.T) {
	for _, x := range []struct {
		c, w    int
		ballots []int
		scores  [4]int
	}{
		// The ballot with all names is worth 60, 30, 20, 15 and 12 with one name more each time.
		{5, 1, []int{31}, [4]int{1, 60, 1, 1}}, {5, 3, []int{31}, [4]int{2, 90, 1, 2}}, {5, 7, []int{31}, [4]int{3, 110, 1, 3}},
		{5, 15, []int{31}, [4]int{4, 125, 1, 4}}, {5, 31, []int{31}, [4]int{5, 137, 1, 5}},
		{5, 31, []int{31, 31, 31, 31, 31, 31}, [4]int{30, 822, 6, 5}},
		// Ballots that approve of nobody, and a committee of nobody.
		{1, 1, []int{0}, [4]int{0, 0, 0, 0}}, {5, 31, []int{0, 0, 0}, [4]int{0, 0, 0, 0}}, {5, 0, []int{31, 31}, [4]int{0, 0, 0, 0}},
		{3, 7, []int{7, 0}, [4]int{3, 110, 1, 0}},
		// Names that are not in the committee do not count.
		{3, 3, []int{1, 2, 4, 6, 7}, [4]int{5, 270, 4, 0}}, {3, 5, []int{1, 6, 7}, [4]int{4, 210, 3, 1}}, {4, 8, []int{7, 7, 7, 8}, [4]int{1, 60, 1, 0}},
		{4, 9, []int{7, 7, 7, 8}, [4]int{4, 240, 4, 1}},
	} {
		for i, name := range scoresOfAll() {
			wantNumber(t, "ScoreOf "+name, scoreOf(t, name, x.c, x.ballots, x.w), x.scores[i])
		}
	}
}

func TestBestOf(t *testing.T) {
	for _, x := range []struct {
		name    string
		c, k    int
		ballots []int
		best    []int
	}{
		{"approval", 3, 1, []int{1, 3, 4}, []int{1}}, {"approval", 3, 2, []int{1, 3, 4}, []int{3, 5}}, {"harmonic", 3, 2, []int{1, 3, 4}, []int{5}},
		{"cover", 3, 2, []int{1, 3, 4}, []int{5}}, {"least", 3, 2, []int{1, 3, 4}, []int{5}}, {"least", 3, 1, []int{1, 3, 4}, []int{1, 2, 4}},
		// A second name for two ballots is worth as much as a first one for one ballot.
		{"harmonic", 3, 2, []int{3, 3, 4}, []int{3, 5, 6}}, {"harmonic", 3, 2, []int{3, 3, 3, 4}, []int{3}}, {"harmonic", 2, 1, []int{1, 2}, []int{1, 2}},
		{"approval", 3, 2, []int{0, 0}, []int{3, 5, 6}}, {"harmonic", 3, 2, []int{0, 0}, []int{3, 5, 6}}, {"cover", 3, 2, []int{0}, []int{3, 5, 6}},
		{"least", 3, 2, []int{0, 7}, []int{3, 5, 6}}, {"cover", 3, 2, []int{7, 7}, []int{3, 5, 6}},
		{"cover", 3, 2, []int{3, 3, 5, 5, 2, 4}, []int{6}},
		// There is one committee of all names.
		{"approval", 3, 3, []int{0, 1}, []int{7}}, {"harmonic", 5, 5, []int{0}, []int{31}}, {"cover", 1, 1, []int{1}, []int{1}}, {"least", 1, 1, []int{0}, []int{1}},
	} {
		wantNums(t, "BestOf "+x.name, impl.BestOf(x.name, x.c, x.ballots, x.k), x.best...)
	}
}

func TestGreedyOf(t *testing.T) {
	for _, x := range []struct {
		name    string
		c, k    int
		ballots []int
		names   []int
	}{
		{"approval", 4, 4, []int{7, 7, 7, 8}, []int{0, 1, 2, 3}}, {"cover", 4, 4, []int{7, 7, 7, 8}, []int{0, 3, 1, 2}},
		{"least", 4, 4, []int{7, 7, 7, 8}, []int{0, 3, 1, 2}}, {"harmonic", 4, 4, []int{7, 7, 7, 8}, []int{0, 1, 2, 3}},
		{"harmonic", 3, 3, []int{3, 3, 4, 4}, []int{0, 2, 1}}, {"approval", 3, 2, []int{4, 6, 6}, []int{2, 1}},
		// The one that is the best alone comes first, though two others are the best together.
		{"cover", 3, 2, []int{3, 3, 5, 5, 2, 4}, []int{0, 1}}, {"approval", 3, 1, []int{2, 4}, []int{1}},
		// Where none is worth anything the least one comes first.
		{"approval", 3, 3, []int{0}, []int{0, 1, 2}}, {"harmonic", 5, 5, []int{0, 0}, []int{0, 1, 2, 3, 4}}, {"cover", 5, 3, []int{16, 16}, []int{4, 0, 1}},
		{"least", 5, 3, []int{16, 16}, []int{4, 0, 1}}, {"least", 3, 2, []int{0, 4}, []int{0, 1}}, {"cover", 1, 1, []int{0}, []int{0}},
	} {
		wantNums(t, "GreedyOf "+x.name, impl.GreedyOf(x.name, x.c, x.ballots, x.k), x.names...)
	}
}

// TestWrongedBy has for each claim, in the order of claimsOfAll, the group that is wronged and what is due to it.
func TestWrongedBy(t *testing.T) {
	for _, x := range []struct {
		c, k, w int
		ballots []int
		groups  [3][2]int
	}{
		{3, 2, 6, []int{1, 1, 1, 2, 4, 4}, [3][2]int{{7, 1}, {7, 1}, {7, 1}}}, {3, 2, 3, []int{1, 1, 1, 2, 4, 4}, [3][2]int{}},
		// Three of four ballots are due two of three names, and get one of them.
		{4, 3, 9, []int{7, 7, 7, 8}, [3][2]int{{}, {7, 2}, {7, 2}}}, {4, 3, 9, []int{8, 7, 7, 7}, [3][2]int{{}, {14, 2}, {14, 2}}},
		// They get two together, but one each.
		{4, 2, 12, []int{7, 11}, [3][2]int{{}, {}, {3, 2}}}, {4, 2, 3, []int{7, 11}, [3][2]int{}},
		// The first of the groups that are wronged, in whatever order their ballots are.
		{2, 2, 0, []int{1, 1, 2, 2}, [3][2]int{{3, 1}, {3, 1}, {3, 1}}}, {2, 2, 1, []int{1, 1, 2, 2}, [3][2]int{{12, 1}, {12, 1}, {12, 1}}},
		{2, 2, 0, []int{1, 2, 1, 2}, [3][2]int{{5, 1}, {5, 1}, {5, 1}}}, {2, 2, 1, []int{1, 2, 1, 2}, [3][2]int{{10, 1}, {10, 1}, {10, 1}}},
		// The least number that is due comes before the least sum.
		{4, 3, 1, []int{7, 7, 8}, [3][2]int{{4, 1}, {4, 1}, {4, 1}}}, {4, 3, 9, []int{7, 7, 8}, [3][2]int{{}, {3, 2}, {3, 2}}},
		// Just as many as are needed, and one less.
		{1, 1, 0, []int{1, 1}, [3][2]int{{3, 1}, {3, 1}, {3, 1}}}, {2, 1, 0, []int{1, 2}, [3][2]int{}}, {2, 2, 0, []int{1, 2}, [3][2]int{{1, 1}, {1, 1}, {1, 1}}},
		{2, 2, 0, []int{1, 1, 0, 0, 0}, [3][2]int{}}, {2, 2, 0, []int{1, 1, 1, 0, 0}, [3][2]int{{7, 1}, {7, 1}, {7, 1}}},
		// They are enough for two names, but agree on one.
		{3, 2, 1, []int{3, 5}, [3][2]int{}}, {3, 2, 4, []int{3, 3}, [3][2]int{{1, 1}, {1, 1}, {1, 1}}}, {3, 2, 1, []int{3, 3}, [3][2]int{{}, {3, 2}, {3, 2}}},
		// The claim one is for one name alone.
		{5, 5, 1, []int{31, 31, 31, 31, 31, 31}, [3][2]int{{}, {7, 2}, {7, 2}}}, {5, 5, 15, []int{31, 31, 31, 31, 31, 31}, [3][2]int{{}, {63, 5}, {63, 5}}},
		// Nobody is approved of, and all names are in the committee.
		{1, 1, 0, []int{0}, [3][2]int{}}, {5, 5, 0, []int{0, 0, 0, 0, 0, 0}, [3][2]int{}}, {5, 5, 31, []int{31, 31, 31, 31, 31, 31}, [3][2]int{}},
		{3, 3, 7, []int{1, 2, 4, 0}, [3][2]int{}}, {3, 1, 0, []int{7, 7, 0}, [3][2]int{}},
	} {
		for i, claim := range claimsOfAll() {
			group, due := impl.WrongedBy(claim, x.c, x.ballots, x.k, x.w)
			wantNums(t, "WrongedBy "+claim, []int{group, due}, x.groups[i][0], x.groups[i][1])
			if impl.IsJust(claim, x.c, x.ballots, x.k, x.w) != (x.groups[i][0] == 0) {
				t.Errorf("IsJust(%q, %d, %v, %d, %d)", claim, x.c, x.ballots, x.k, x.w)
			}
		}
	}
}
