package tests

import (
	"math"
	"slices"
	"strings"
	"sync"
	"testing"

	"loop.example/jointjudgments/impl"
)

// checkNoShares checks the fixed result of each function for what are no ballots about c names.
func checkNoShares(t *testing.T, c int, ballots []int) {
	t.Helper()
	for _, k := range []int{1, 2, maxNames, c, c - 1, 0, -1} {
		wantNoChoice(t, c, ballots, k)
		for _, w := range []int{0, 1, 2, 3, 31, -1, math.MaxInt} {
			if impl.IsServed(c, ballots, k, w) {
				t.Errorf("IsServed(%d, %v, %d, %d)", c, ballots, k, w)
			}
			wantNoSwap(t, c, ballots, w)
		}
	}
}

func TestBallotsOfSharesThatAreNotValid(t *testing.T) {
	for c := 1; c <= maxNames; c++ {
		for _, n := range []int{0, maxBallots + 1, maxBallots + 2, 63, 64, 65, 1000} {
			for _, ballot := range []int{0, 1} {
				checkNoShares(t, c, slices.Repeat([]int{ballot}, n))
			}
		}
		checkNoShares(t, c, nil)
		for _, other := range noSums(c) {
			// One that is not valid is enough.
			for n := 1; n <= maxBallots; n++ {
				for i := range n {
					ballots := slices.Repeat([]int{1}, n)
					ballots[i] = other
					checkNoShares(t, c, ballots)
				}
			}
		}
	}
	for _, c := range noCounts() {
		checkNoShares(t, c, nil)
		for _, ballots := range [][]int{{0}, {1}, {0, 0, 0}, {31, 1}, {32}, {-1}, {math.MaxInt}} {
			checkNoShares(t, c, ballots)
		}
	}
}

func TestSharesAtTheLimits(t *testing.T) {
	all := powerOf(2, maxNames) - 1
	ballots := slices.Repeat([]int{all}, maxBallots)
	six := powerOf(maxBallots, maxNames)
	wantChosen(t, "LoadedOf", loadedOf(t, maxNames, ballots, maxNames), othersOf(maxNames, nil), slices.Repeat([]int{maxNames * six / maxBallots}, maxBallots), six)
	wantChosen(t, "BoughtOf", boughtOf(t, maxNames, ballots, maxNames), othersOf(maxNames, nil), make([]int, maxBallots), six)
	if !impl.IsServed(maxNames, ballots, maxNames, all) || impl.IsServed(maxNames, ballots, maxNames, 0) {
		t.Error("IsServed at the limits")
	}
	wantNoSwap(t, maxNames, ballots, all)
	wantSwap(t, maxNames, slices.Repeat([]int{16}, maxBallots), 15, 0, 4)
	wantNumber(t, "CommitteeOf all names", impl.CommitteeOf(othersOf(maxNames, nil)), all)
	wantNumber(t, "CommitteeOf one more", impl.CommitteeOf(othersOf(maxNames+1, nil)), -1)
	wantNoChoice(t, maxNames, ballots, maxNames+1)
	wantNoChoice(t, maxNames+1, ballots, maxNames)
	wantNoChoice(t, maxNames, append(ballots, all), maxNames)
}

func TestSeatsOfSharesThatAreNotValid(t *testing.T) {
	for c := 1; c <= maxNames; c++ {
		for _, ballots := range [][]int{{0}, {1, 1}, {powerOf(2, c) - 1}} {
			for _, k := range noSeats(c) {
				wantNoChoice(t, c, ballots, k)
				eachCommittee(c, func(w int) {
					if impl.IsServed(c, ballots, k, w) {
						t.Errorf("IsServed(%d, %v, %d, %d)", c, ballots, k, w)
					}
				})
			}
			for _, w := range noSums(c) {
				wantNoSwap(t, c, ballots, w)
				for k := 1; k <= c; k++ {
					if impl.IsServed(c, ballots, k, w) {
						t.Errorf("IsServed(%d, %v, %d, %d)", c, ballots, k, w)
					}
				}
			}
			// A committee may have fewer names than there are seats, but not more.
			for k := 1; k <= c; k++ {
				eachCommittee(c, func(w int) {
					if onesOf(w) > k && impl.IsServed(c, ballots, k, w) {
						t.Errorf("IsServed(%d, %v, %d, %d)", c, ballots, k, w)
					}
				})
			}
		}
	}
}

func TestDesksThatAreNotValid(t *testing.T) {
	for _, text := range wrongSpaces() {
		for _, word := range spaceWords() {
			wantDesk(t, []string{word + " " + text}, "wrong")
			wantDesk(t, []string{word + " " + text + " 0"}, "what")
		}
		for _, word := range votesWords() {
			wantDesk(t, []string{word + " " + text}, "what")
			wantDesk(t, []string{word + " " + text + " 0"}, "wrong")
			wantDesk(t, []string{word + " " + text + " "}, "wrong")
			wantDesk(t, []string{word + " " + text + " 0 0"}, "what")
		}
		for _, word := range noWords() {
			wantDesk(t, []string{word + " " + text}, "what")
			wantDesk(t, []string{word + " " + text + " 0"}, "what")
		}
	}
	for _, spaceText := range []string{"1:1", andText, cycleText, "4:5,6,9"} {
		for _, word := range votesWords() {
			for _, text := range wrongVotes(space(t, spaceText)) {
				wantDesk(t, []string{word + " " + spaceText + " " + text}, "wrong")
			}
		}
		for _, word := range noWords() {
			wantDesk(t, []string{word + " " + spaceText}, "what")
			wantDesk(t, []string{word + " " + spaceText + " 1"}, "what")
		}
	}
	long := strings.Repeat("median 1:0 ", 10000)
	wantDesk(t, []string{long, strings.Repeat(" ", 100000), strings.Repeat("x", 100000), "median " + strings.Repeat("x", 100000)}, "what", "what", "what", "wrong")
}

// TestMemoryOfShares checks that no function changes its arguments, keeps them, or gives parts of them out, and that the
// lists of one result are not in the same memory.
func TestMemoryOfShares(t *testing.T) {
	calls := map[string]func(ballots []int) ([]int, []int){
		"LoadedOf": func(ballots []int) ([]int, []int) {
			names, loads, _ := impl.LoadedOf(3, ballots, 2)
			return names, loads
		},
		"LoadedOf all": func(ballots []int) ([]int, []int) {
			names, loads, _ := impl.LoadedOf(3, ballots, 3)
			return names, loads
		},
		"BoughtOf": func(ballots []int) ([]int, []int) {
			names, purses, _ := impl.BoughtOf(3, ballots, 2)
			return names, purses
		},
		"BoughtOf all": func(ballots []int) ([]int, []int) {
			names, purses, _ := impl.BoughtOf(3, ballots, 3)
			return names, purses
		},
		"IsServed": func(ballots []int) ([]int, []int) { impl.IsServed(3, ballots, 2, 4); return nil, nil },
		"SwapOf": func(ballots []int) ([]int, []int) {
			from, to, _ := impl.SwapOf(3, ballots, 6)
			return []int{from, to}, nil
		},
		"CommitteeOf": func(list []int) ([]int, []int) { return []int{impl.CommitteeOf(list)}, nil },
	}
	for _, ballots := range [][]int{{0}, {7, 3, 1}, {1, 1, 1, 2, 4, 4}, {3, 3}, {7, 7, 7, 7, 7, 7}, {5, 0}, {4, 2, 1}} {
		for name, call := range calls {
			list, memory := filled(ballots)
			before := slices.Clone(memory)
			names, numbers := call(list)
			wantNames, wantNumbers := slices.Clone(names), slices.Clone(numbers)
			spoil(names)
			wantNums(t, name+" after the names are written over", numbers, wantNumbers...)
			spoil(numbers)
			if !slices.Equal(memory, before) {
				t.Errorf("%s: the argument %v is changed, or given out: %v", name, before, memory)
			}
			names, numbers = call(list)
			wantNums(t, name+" once more", names, wantNames...)
			wantNums(t, name+" once more", numbers, wantNumbers...)
		}
	}
	lines := []string{"critical " + andText, "walk", "majority 1:0 0", "majority 1:0 1"}
	before := slices.Clone(lines)
	wantDesk(t, lines[:3], "3", "what", "0")
	if !slices.Equal(lines, before) {
		t.Errorf("RunDesk changes its lines: %q", lines)
	}
}

// TestSharesAtTheSameTime checks that calls that run at the same time do not change each other's results.
func TestSharesAtTheSameTime(t *testing.T) {
	var calls sync.WaitGroup
	ballots := []int{1, 1, 1, 2, 4, 4}
	lines := []string{"ranked " + andText + " 1,2,7", "blocked " + cycleText, "median x"}
	for range 20 {
		calls.Go(func() {
			names, loads, below := impl.LoadedOf(3, ballots, 2)
			wantChosen(t, "LoadedOf", chosen{names, loads, below}, []int{0, 2}, []int{2, 2, 2, 0, 3, 3}, 6)
			names, purses, below := impl.BoughtOf(3, ballots, 2)
			wantChosen(t, "BoughtOf", chosen{names, purses, below}, []int{0}, []int{0, 0, 0, 6, 6, 6}, 3)
			wantSwap(t, 3, ballots, 6, 1, 0)
			wantDesk(t, lines, "7", "yes", "wrong")
		})
	}
	calls.Wait()
}
