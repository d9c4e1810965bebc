package tests

import (
	"slices"
	"strings"
	"testing"

	"loop.example/jointjudgments/impl"
)

func TestLimitOfDesk(t *testing.T) {
	wantNumber(t, "MaxDesk", impl.MaxDesk, maxDesk)
}

func TestLoadedOfByWords(t *testing.T) {
	t.Parallel()
	eachElection(40, func(c int, ballots []int) {
		for k := 1; k <= c; k++ {
			got := loadedOf(t, c, ballots, k)
			names, loads, below := loadedByWords(c, ballots, k)
			if !slices.Equal(got.names, names) || !areFractions(got.numbers, got.below, loads) || got.below != below {
				t.Fatalf("LoadedOf(%d, %v, %d) = %v, want %v, %v, %d", c, ballots, k, got, names, loads, below)
			}
		}
	})
}

func TestBoughtOfByWords(t *testing.T) {
	t.Parallel()
	eachElection(40, func(c int, ballots []int) {
		for k := 1; k <= c; k++ {
			got := boughtOf(t, c, ballots, k)
			names, purses, below := boughtByWords(c, ballots, k)
			if !slices.Equal(got.names, names) || !areFractions(got.numbers, got.below, purses) || got.below != below {
				t.Fatalf("BoughtOf(%d, %v, %d) = %v, want %v, %v, %d", c, ballots, k, got, names, purses, below)
			}
		}
	})
}

func TestIsServedByWords(t *testing.T) {
	t.Parallel()
	eachElection(20, func(c int, ballots []int) {
		eachSeated(c, func(k int, w int) {
			if got := impl.IsServed(c, ballots, k, w); got != servedByWords(c, ballots, k, w) {
				t.Fatalf("IsServed(%d, %v, %d, %d) = %v", c, ballots, k, w, got)
			}
		})
	})
}

func TestSwapOfByWords(t *testing.T) {
	t.Parallel()
	eachElection(20, func(c int, ballots []int) {
		eachCommittee(c, func(w int) {
			if swaps := swapsByWords(c, ballots, w); len(swaps) == 0 {
				wantNoSwap(t, c, ballots, w)
			} else {
				wantSwap(t, c, ballots, w, swaps[0][0], swaps[0][1])
			}
		})
	})
}

func TestCommitteeOfByWords(t *testing.T) {
	for n := range 6 {
		someNums(n, maxNames-1, 1<<12, func(list []int) {
			wantNumber(t, "CommitteeOf", impl.CommitteeOf(list), committeeByWords(list))
		})
	}
}

func TestRunDeskByWords(t *testing.T) {
	for _, line := range someLines() {
		wantDesk(t, []string{line}, answerByWords(line))
	}
}

func TestLoadedOf(t *testing.T) {
	for _, x := range []struct {
		c, k           int
		ballots        []int
		names, numbers []int
		below          int
	}{
		// Of 1/3, 1 and 1/2 the first one, then 1/2 instead of 1, and then the name that is left.
		{3, 3, []int{1, 1, 1, 2, 4, 4}, []int{0, 2, 1}, []int{2, 2, 2, 6, 3, 3}, 6},
		// The second name is shared by one that carries 1/2 already, and by one that carries nothing: 3/4.
		{2, 2, []int{1, 3, 2}, []int{0, 1}, []int{2, 3, 3}, 4},
		// The name 2, which one alone carries, is as good as the name 1, for which two carry 1/2: the lesser name is next.
		{3, 2, []int{3, 3, 4}, []int{0, 1}, []int{4, 4, 0}, 4}, {3, 3, []int{3, 3, 4}, []int{0, 1, 2}, []int{4, 4, 4}, 4},
		{3, 2, []int{6, 6, 1}, []int{1, 0}, []int{1, 1, 2}, 2},
		// All names are as good as each other.
		{5, 5, []int{31}, []int{0, 1, 2, 3, 4}, []int{5}, 1}, {5, 2, []int{31, 31, 31, 31, 31, 31}, []int{0, 1}, []int{12, 12, 12, 12, 12, 12}, 36},
		{5, 5, []int{31, 31, 31, 31, 31, 31}, []int{0, 1, 2, 3, 4}, slices.Repeat([]int{6480}, 6), 7776},
		// Names that nobody approves of are last, the least first, and load nobody.
		{1, 1, []int{0}, []int{0}, []int{0}, 1}, {3, 2, []int{0, 0}, []int{0, 1}, []int{0, 0}, 1}, {5, 5, []int{0}, []int{0, 1, 2, 3, 4}, []int{0}, 1},
		{5, 3, []int{16}, []int{4, 0, 1}, []int{1}, 1}, {4, 4, []int{10, 8, 0}, []int{3, 1, 0, 2}, []int{3, 1, 0}, 2}, {4, 2, []int{10, 8, 0}, []int{3, 1}, []int{3, 1, 0}, 2},
		// A name that is loaded on one who carries much is still ahead of one that nobody approves of.
		{3, 3, []int{6}, []int{1, 2, 0}, []int{2}, 1}, {5, 4, []int{30}, []int{1, 2, 3, 4}, []int{4}, 1}, {5, 5, []int{30}, []int{1, 2, 3, 4, 0}, []int{4}, 1},
	} {
		wantChosen(t, "LoadedOf", loadedOf(t, x.c, x.ballots, x.k), x.names, x.numbers, x.below)
	}
}

func TestBoughtOf(t *testing.T) {
	for _, x := range []struct {
		c, k           int
		ballots        []int
		names, numbers []int
		below          int
	}{
		{3, 2, []int{1, 1, 1, 2, 4, 4}, []int{0}, []int{0, 0, 0, 6, 6, 6}, 3}, {4, 4, []int{7, 7, 7, 8}, []int{0, 1, 2, 3}, []int{0, 0, 0, 0}, 27},
		// One purse is just enough, or too small by one.
		{1, 1, []int{1}, []int{0}, []int{0}, 1}, {1, 1, []int{1, 0}, nil, []int{1, 1}, 1}, {2, 2, []int{1, 0}, []int{0}, []int{0, 2}, 1}, {2, 2, []int{1, 0, 0}, nil, []int{2, 2, 2}, 1},
		{2, 1, []int{1, 1, 0}, nil, []int{1, 1, 1}, 1}, {2, 2, []int{1, 1, 0}, []int{0}, []int{1, 1, 4}, 2},
		// Names that nobody approves of are not bought, and leave their seats empty.
		{1, 1, []int{0}, nil, []int{1}, 1}, {2, 1, []int{0, 0}, nil, []int{1, 1}, 1}, {5, 5, []int{0, 0, 0}, nil, []int{5, 5, 5}, 1}, {5, 5, []int{16, 16}, []int{4}, []int{8, 8}, 2},
		{4, 4, []int{10, 10, 0}, []int{1, 3}, []int{4, 4, 16}, 4},
		// With empty purses nothing is bought any more.
		{5, 2, []int{31}, []int{0, 1}, []int{0}, 1}, {5, 3, []int{31, 31, 31}, []int{0, 1, 2}, []int{0, 0, 0}, 27}, {5, 5, []int{31, 31, 31, 31, 31, 31}, []int{0, 1, 2, 3, 4}, []int{0, 0, 0, 0, 0, 0}, 7776},
		// The third ballot approves of the name 3, too, but its purse is empty then: the last one pays alone.
		{4, 4, []int{7, 7, 15, 8}, []int{0, 1, 2, 3}, []int{0, 0, 0, 0}, 27},
		// The second ballot has 5/3 left for the name 0, and pays all of it, and the first one pays the share of 7/3 alone.
		{3, 3, []int{1, 3, 2, 2}, []int{1, 0}, []int{2, 0, 5, 5}, 3},
		// Together 5/2 are left for the name 1, which costs 3.
		{2, 2, []int{1, 3, 2}, []int{0}, []int{1, 1, 4}, 2},
		// What is left to a ballot for the name 1 is the share itself, so it is counted.
		{3, 3, []int{1, 3, 2}, []int{0, 1}, []int{6, 0, 6}, 4}, {3, 3, []int{3, 3, 0}, []int{0, 1}, []int{0, 0, 12}, 4},
		// The least share comes first, be the name greater, and the least name of several.
		{3, 3, []int{1, 2, 2}, []int{1, 0}, []int{0, 3, 3}, 2}, {3, 1, []int{6, 6, 6}, []int{1}, []int{0, 0, 0}, 3}, {2, 2, []int{2, 1}, []int{0, 1}, []int{0, 0}, 1},
	} {
		wantChosen(t, "BoughtOf", boughtOf(t, x.c, x.ballots, x.k), x.names, x.numbers, x.below)
	}
}

func TestIsServed(t *testing.T) {
	for _, x := range []struct {
		c, k, w  int
		ballots  []int
		isServed bool
	}{
		{3, 2, 3, []int{1, 1, 1, 2, 4, 4}, true}, {3, 2, 6, []int{1, 1, 1, 2, 4, 4}, false}, {3, 3, 3, []int{1, 1, 1, 2, 4, 4}, false}, {3, 1, 2, []int{1, 1, 1, 2, 4, 4}, true},
		// Just as many as are needed, and one less.
		{2, 1, 0, []int{1, 1}, false}, {2, 1, 0, []int{1, 2}, true}, {2, 2, 0, []int{1, 2}, false}, {2, 2, 0, []int{1, 0, 0}, true}, {3, 3, 0, []int{1, 0, 0}, false},
		{5, 5, 0, []int{1, 0, 0, 0, 0, 0}, true}, {5, 5, 0, []int{1, 1, 0, 0, 0, 0}, false},
		// Who has one name wants no other one.
		{3, 3, 1, []int{7, 7, 7}, true}, {3, 3, 4, []int{7, 5, 6}, true}, {3, 2, 1, []int{7, 7, 6, 6}, false}, {3, 2, 1, []int{7, 7, 2, 4}, true},
		// Those without a name want different ones, or the same.
		{3, 2, 1, []int{2, 4, 1}, true}, {3, 2, 1, []int{6, 4, 1}, false}, {3, 3, 1, []int{2, 4, 1}, false},
		// Nobody is wanted, and all names are seated.
		{3, 3, 0, []int{0, 0, 0}, true}, {1, 1, 0, []int{0}, true}, {1, 1, 0, []int{1}, false}, {1, 1, 1, []int{0}, true}, {5, 5, 31, []int{31, 1, 0}, true},
	} {
		if impl.IsServed(x.c, x.ballots, x.k, x.w) != x.isServed {
			t.Errorf("IsServed(%d, %v, %d, %d) = %v", x.c, x.ballots, x.k, x.w, !x.isServed)
		}
	}
}

func TestSwapOf(t *testing.T) {
	wantSwap(t, 3, []int{1, 1, 1, 2, 4, 4}, 6, 1, 0)
	wantSwap(t, 3, []int{1, 1, 1, 2, 4, 4}, 3, 1, 2)
	wantNoSwap(t, 3, []int{1, 1, 1, 2, 4, 4}, 5)
	// The least name that can be left out comes first, then the least one in its place, though others are better.
	wantSwap(t, 4, []int{4, 8, 8}, 3, 0, 2)
	wantSwap(t, 4, []int{8, 2, 4, 4}, 9, 0, 1)
	// The name 0 is not left out for the name 2, for which the name 1 might be, but it is for the name 3.
	wantSwap(t, 4, []int{8, 9, 12}, 3, 0, 3)
	// Only the second name can be left out.
	wantSwap(t, 3, []int{1, 1, 4, 4, 4, 2}, 3, 0, 2)
	wantSwap(t, 3, []int{1, 1, 1, 4, 4, 2}, 3, 1, 2)
	wantSwap(t, 5, []int{15, 15, 15, 16}, 15, 0, 4)
	// Three ballots give 20 each for the third of their names, as much as one gives 60 for the first one.
	wantNoSwap(t, 4, []int{7, 7, 7, 8}, 7)
	wantNoSwap(t, 4, []int{7, 7, 7, 8}, 11)
	wantNoSwap(t, 2, []int{1, 2}, 1)
	wantNoSwap(t, 2, []int{1, 2}, 2)
	wantSwap(t, 2, []int{1, 2, 2}, 1, 0, 1)
	// Swaps that change nothing: nobody is approved of, or all are by the same.
	wantNoSwap(t, 3, []int{0, 0}, 1)
	wantNoSwap(t, 5, []int{31, 31, 0}, 21)
	wantNoSwap(t, 3, []int{1, 1}, 3)
	// There is no name to leave out, or none to put in its place.
	wantNoSwap(t, 3, []int{7, 1, 2}, 0)
	wantNoSwap(t, 3, []int{7, 1, 2}, 7)
	wantNoSwap(t, 1, []int{1}, 0)
	wantNoSwap(t, 1, []int{1}, 1)
}

func TestCommitteeOf(t *testing.T) {
	for _, x := range []struct {
		list []int
		w    int
	}{
		{nil, 0}, {[]int{}, 0}, {[]int{0}, 1}, {[]int{4}, 16}, {[]int{0, 1, 2, 3, 4}, 31}, {[]int{4, 2, 0}, 21}, {[]int{2, 0, 2}, 5}, {[]int{3, 3, 3}, 8},
		{slices.Repeat([]int{1, 3}, 500), 10}, {[]int{5}, -1}, {[]int{-1}, -1}, {[]int{0, 1, 5}, -1}, {[]int{-1, 0}, -1}, {[]int{64}, -1},
	} {
		wantNumber(t, "CommitteeOf", impl.CommitteeOf(x.list), x.w)
	}
}

func TestRunDesk(t *testing.T) {
	wantDesk(t, nil)
	wantDesk(t, []string{}, []string{}...)
	wantDesk(t, []string{"critical " + andText, "median " + andText, "blocked " + andText}, "3", "no", "no")
	wantDesk(t, []string{"critical " + cycleText, "median " + cycleText, "blocked " + cycleText}, "2", "no", "yes")
	wantDesk(t, []string{"critical " + allFour, "median " + allFour, "blocked " + allFour}, "0", "yes", "no")
	wantDesk(t, []string{"critical 1:0", "critical 4:0,15", "median 2:0,1,3", "blocked 3:0,3,5,6"}, "1", "12", "yes", "yes")
	// The majority is no judgment of the space, so the others give three, and the first one by issues in turn.
	votes := " " + andText + " 1,2,7"
	wantDesk(t, []string{"majority" + votes, "medians" + votes, "slater" + votes, "ranked" + votes}, "3", "1,2,7", "1,2,7", "7")
	votes = " 4:0,9,10,15 9,10,9,15,0"
	wantDesk(t, []string{"majority" + votes, "medians" + votes, "slater" + votes, "ranked" + votes}, "9", "9", "9", "9")
	// What is most wanted, what differs the least, and what is kept, 2,9,14, are three lists.
	votes = " 4:2,9,13,14,15 14,14,9,2,9"
	wantDesk(t, []string{"majority" + votes, "medians" + votes, "slater" + votes, "ranked" + votes}, "10", "14", "2,14", "14")
	// Votes may be the same, in any order, and as many as there may be.
	wantDesk(t, []string{"majority 1:0,1 1,0,1,0,1", "majority 1:0,1 1,0", "medians 1:0,1 1,0", "slater 1:0,1 0,1", "ranked 1:0,1 0,1"}, "1", "0", "0,1", "0,1", "0")
}

func TestRunDeskOfOtherLines(t *testing.T) {
	long := strings.Repeat("0,", maxVotes)
	lines := []struct{ line, answer string }{
		// As many texts as the word takes, one of them wrong.
		{"critical ", "wrong"}, {"median x", "wrong"}, {"blocked 1:2", "wrong"}, {"median 1:0\n", "wrong"}, {"median\n", "what"}, {"critical 5:0", "wrong"},
		{"majority  ", "wrong"}, {"majority 1:0 ", "wrong"}, {"majority  0", "wrong"}, {"ranked 1:0 1", "wrong"}, {"medians 2:0,1 0,2", "wrong"}, {"slater x 0", "wrong"},
		{"majority 1:0 " + long + "0", "wrong"}, {"majority 1:0 " + long[:2*maxVotes-1], "0"}, {"majority 1:0 " + long, "wrong"}, {"slater 1:0 00", "wrong"},
		{"slater 1:0 -0", "wrong"}, {"slater 1:0 +0", "wrong"}, {"slater 1:0 0,", "wrong"}, {"slater 1:0 ,0", "wrong"}, {"slater 1:0 0\t", "wrong"}, {"slater 1:0 0", "0"},
		// Too few texts, too many, or no such word.
		{"critical", "what"}, {"critical  ", "what"}, {"critical 1:0 ", "what"}, {" critical 1:0", "what"}, {"critical  1:0", "what"}, {"critical 1:0 0", "what"},
		{"majority", "what"}, {"majority ", "what"}, {"majority 1:0", "what"}, {"majority   ", "what"}, {"majority 1:0  0", "what"}, {"majority 1:0 0 ", "what"}, {"majority 1:0 0, 0", "what"},
		{"", "what"}, {" ", "what"}, {"  ", "what"}, {"\n", "what"}, {"walk 1:0", "what"}, {"what", "what"}, {"wrong", "what"}, {"Median 1:0", "what"}, {"median\t1:0", "what"},
		{"majority\n1:0\n0", "what"}, {"critical,1:0", "what"}, {"critical 1:0\ncritical 1:0", "what"}, {"median 1:0\x00", "wrong"}, {"\xff 1:0", "what"}, {"median \xff", "wrong"},
	}
	for _, x := range lines {
		wantDesk(t, []string{x.line}, x.answer)
		wantDesk(t, []string{x.line, "critical 1:0", x.line}, x.answer, "1", x.answer)
	}
}

func TestLimitsOfDesks(t *testing.T) {
	for _, line := range []string{"", "critical 1:0", "median x", "walk"} {
		answer := answerByWords(line)
		for _, n := range []int{1, maxDesk - 1, maxDesk} {
			wantDesk(t, slices.Repeat([]string{line}, n), slices.Repeat([]string{answer}, n)...)
		}
		for _, n := range []int{maxDesk + 1, maxDesk + 2, 63, 64, 65, 1000} {
			wantDesk(t, slices.Repeat([]string{line}, n))
		}
	}
}
