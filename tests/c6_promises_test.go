package tests

import (
	"math"
	"slices"
	"strings"
	"testing"

	"loop.example/jointjudgments/impl"
)

// TestPromise56GreedyCommitteesAreServed checks the promise 56 once more, by the functions of chapter 6.
func TestPromise56GreedyCommitteesAreServed(t *testing.T) {
	t.Parallel()
	eachElection(60, func(c int, ballots []int) {
		for k := 1; k <= c; k++ {
			for _, name := range []string{"harmonic", "cover"} {
				w := impl.CommitteeOf(impl.GreedyOf(name, c, ballots, k))
				if !impl.IsServed(c, ballots, k, w) || !impl.IsJust("one", c, ballots, k, w) {
					t.Fatalf("the committee %d of GreedyOf(%q, %d, %v, %d) is not just by one", w, name, c, ballots, k)
				}
			}
			w := impl.CommitteeOf(impl.GreedyOf("approval", c, ballots, k))
			if !slices.Contains(impl.BestOf("approval", c, ballots, k), w) {
				t.Fatalf("the committee %d of GreedyOf approval, %d, %v, %d is not one of the best", w, c, ballots, k)
			}
		}
	})
}

func TestPromise59LoadsAreAsManyAsNames(t *testing.T) {
	t.Parallel()
	eachElection(60, func(c int, ballots []int) {
		for k := 1; k <= c; k++ {
			checkLoads(t, c, ballots, k)
		}
	})
	for _, k := range noSeats(3) {
		wantNoChoice(t, 3, []int{1, 2}, k)
	}
	wantNoChoice(t, 3, nil, 2)
	wantNoChoice(t, 3, []int{1, 8}, 2)
	wantNoChoice(t, 0, []int{0}, 1)
}

// checkLoads checks that the committee is just by together, that the loads are as many as names that are approved of, and
// that the others come last and change no load.
func checkLoads(t *testing.T, c int, ballots []int, k int) {
	t.Helper()
	got := loadedOf(t, c, ballots, k)
	if !impl.IsJust("together", c, ballots, k, impl.CommitteeOf(got.names)) {
		t.Fatalf("the committee %v of LoadedOf(%d, %v, %d) is not just by together", got.names, c, ballots, k)
	}
	approvals := impl.ApprovalsOf(c, ballots)
	approved, product := 0, 1
	for i, name := range got.names {
		if approvals[name] > 0 {
			approved++
			product *= approvals[name]
		}
		if i > 0 && approvals[got.names[i-1]] == 0 && (approvals[name] > 0 || name < got.names[i-1]) {
			t.Fatalf("LoadedOf(%d, %v, %d) = %v: %d is out of order", c, ballots, k, got, name)
		}
	}
	if sumOfNums(got.numbers) != approved*got.below || got.below != product {
		t.Fatalf("LoadedOf(%d, %v, %d) = %v: the loads are not as many as %d names, over %d", c, ballots, k, got, approved, product)
	}
	for i, ballot := range ballots {
		if isLoaded := ballot&impl.CommitteeOf(got.names) != 0; isLoaded != (got.numbers[i] > 0) {
			t.Fatalf("LoadedOf(%d, %v, %d) = %v: the ballot %d", c, ballots, k, got, i)
		}
	}
	if k > 1 {
		wantNums(t, "the names of fewer seats", got.names[:k-1], loadedOf(t, c, ballots, k-1).names...)
	}
}

func TestPromise60PursesPayForNames(t *testing.T) {
	t.Parallel()
	eachElection(60, func(c int, ballots []int) {
		for k := 1; k <= c; k++ {
			checkPurses(t, c, ballots, k)
		}
	})
	for _, k := range noSeats(3) {
		wantNoChoice(t, 3, []int{3, 3}, k)
	}
	wantNoChoice(t, 3, nil, 1)
	wantNoChoice(t, 3, []int{8}, 1)
	wantNoChoice(t, 6, []int{1}, 1)
}

// checkPurses checks that the committee is just by someone, that the purses have what is not paid, and that no other name
// can be bought with it.
func checkPurses(t *testing.T, c int, ballots []int, k int) {
	t.Helper()
	got := boughtOf(t, c, ballots, k)
	if !impl.IsJust("someone", c, ballots, k, impl.CommitteeOf(got.names)) {
		t.Fatalf("the committee %v of BoughtOf(%d, %v, %d) is not just by someone", got.names, c, ballots, k)
	}
	price := len(ballots) * got.below
	if sumOfNums(got.numbers) != (k-len(got.names))*price || slices.Max(got.numbers) > k*got.below {
		t.Fatalf("BoughtOf(%d, %v, %d) = %v: the purses have not what is not paid", c, ballots, k, got)
	}
	for name := range c {
		money, isThere := 0, slices.Contains(got.names, name)
		for _, i := range approversByWords(ballots, name) {
			money += got.numbers[i]
		}
		if !isThere && money >= price || isThere && len(approversByWords(ballots, name)) == 0 {
			t.Fatalf("BoughtOf(%d, %v, %d) = %v: the name %d", c, ballots, k, got, name)
		}
	}
	for i, ballot := range ballots {
		if ballot&impl.CommitteeOf(got.names) == 0 && got.numbers[i] != k*got.below {
			t.Fatalf("BoughtOf(%d, %v, %d) = %v: the ballot %d pays for others", c, ballots, k, got, i)
		}
	}
}

func TestPromise61WhoIsServedIsNotWrongedByOne(t *testing.T) {
	t.Parallel()
	eachElection(40, func(c int, ballots []int) {
		eachSeated(c, func(k int, w int) {
			if served := impl.IsServed(c, ballots, k, w); served != impl.IsJust("one", c, ballots, k, w) {
				t.Fatalf("IsServed(%d, %v, %d, %d) = %v", c, ballots, k, w, served)
			}
		})
		// A committee that has too many names serves nobody, though it wrongs nobody.
		for k := 1; k < c; k++ {
			if impl.IsServed(c, ballots, k, powerOf(2, c)-1) {
				t.Fatalf("%v are served by all of %d names with %d seats", ballots, c, k)
			}
		}
	})
	for _, w := range noSums(3) {
		if impl.IsServed(3, []int{0}, 3, w) {
			t.Errorf("ballots are served by the committee %d", w)
		}
	}
	for _, k := range noSeats(3) {
		if impl.IsServed(3, []int{0}, k, 0) {
			t.Errorf("ballots are served with %d seats", k)
		}
	}
	if impl.IsServed(3, nil, 2, 3) || impl.IsServed(3, []int{8}, 2, 3) || impl.IsServed(0, []int{0}, 1, 0) {
		t.Error("ballots are served that there are not")
	}
}

func TestPromise62CommitteesWithoutABetterSwapAreJust(t *testing.T) {
	t.Parallel()
	eachElection(40, func(c int, ballots []int) {
		eachCommittee(c, func(w int) {
			checkSwap(t, c, ballots, w)
		})
		for k := 1; k <= c; k++ {
			for _, w := range impl.BestOf("harmonic", c, ballots, k) {
				wantNoSwap(t, c, ballots, w)
			}
		}
	})
	for _, w := range noSums(3) {
		wantNoSwap(t, 3, []int{1, 2, 2}, w)
	}
	wantNoSwap(t, 3, nil, 1)
	wantNoSwap(t, 3, []int{8, 2}, 1)
	wantNoSwap(t, 0, []int{0}, 0)
}

// checkSwap checks that the score is greater with the swap, and with none that comes before it; and that the committee is
// just where there is none.
func checkSwap(t *testing.T, c int, ballots []int, w int) {
	t.Helper()
	from, to, ok := impl.SwapOf(c, ballots, w)
	if !ok {
		if from != 0 || to != 0 {
			t.Fatalf("SwapOf(%d, %v, %d) = %d, %d, %v", c, ballots, w, from, to, ok)
		}
		if w > 0 && !impl.IsJust("someone", c, ballots, onesOf(w), w) {
			t.Fatalf("the committee %d of %d for %v has no better swap, but is not just by someone", w, c, ballots)
		}
	}
	for a := range c {
		for b := range c {
			if answer(w, a) == 0 || answer(w, b) == 1 {
				continue
			}
			isBefore := !ok || a < from || a == from && b < to
			isIt := ok && a == from && b == to
			isBetter := scoreOf(t, "harmonic", c, ballots, w-powerOf(2, a)+powerOf(2, b)) > scoreOf(t, "harmonic", c, ballots, w)
			if isBefore && isBetter || isIt && !isBetter {
				t.Fatalf("SwapOf(%d, %v, %d) = %d, %d, %v, but %d and %d", c, ballots, w, from, to, ok, a, b)
			}
		}
	}
	if ok && (answer(w, from) == 0 || answer(w, to) == 1 || to >= c) {
		t.Fatalf("SwapOf(%d, %v, %d) = %d, %d", c, ballots, w, from, to)
	}
}

func TestPromise63CommitteesAreOfDifferentNames(t *testing.T) {
	for n := range 7 {
		someNums(n, maxNames-1, 2000, func(list []int) {
			w := impl.CommitteeOf(list)
			for name := range maxNames {
				if (answer(w, name) == 1) != slices.Contains(list, name) {
					t.Fatalf("CommitteeOf(%v) = %d", list, w)
				}
			}
			if w < 0 || w >= powerOf(2, maxNames) {
				t.Fatalf("CommitteeOf(%v) = %d", list, w)
			}
		})
	}
	// Each committee is that of its own names.
	eachCommittee(maxNames, func(w int) { wantNumber(t, "CommitteeOf", impl.CommitteeOf(namesIn(w)), w) })
	for _, name := range noNumbersOfNames() {
		for _, list := range [][]int{{name}, {0, name}, {name, 0}, {4, 4, name, 1}} {
			wantNumber(t, "CommitteeOf no names", impl.CommitteeOf(list), -1)
		}
	}
}

// noNumbersOfNames returns numbers that are those of no name, the limit and one less than the least among them.
func noNumbersOfNames() []int {
	return []int{-1, -2, -maxNames, maxNames, maxNames + 1, 31, 32, 62, 63, 64, 65, math.MaxInt, math.MinInt}
}

func TestPromise64EachLineHasAnAnswer(t *testing.T) {
	t.Parallel()
	all := someLines()
	for n := range maxDesk + 1 {
		for start := 0; start+n <= len(all); start += 7 * (n + 1) {
			checkDesk(t, all[start:start+n])
		}
	}
	for start := 0; start+maxDesk < len(all); start += 50 {
		if got := impl.RunDesk(all[start : start+maxDesk+1]); got != "" {
			t.Fatalf("RunDesk of too many lines = %q", got)
		}
	}
}

// checkDesk checks that there is an answer to each line, which is that to the line alone, and of the first lines the
// beginning of all answers.
func checkDesk(t *testing.T, lines []string) {
	t.Helper()
	whole := impl.RunDesk(lines)
	if strings.Count(whole, "\n") != len(lines) {
		t.Fatalf("RunDesk(%q) = %q, which has not %d lines", lines, whole, len(lines))
	}
	each := ""
	for i, line := range lines {
		if first := impl.RunDesk(lines[:i]); first != each || !strings.HasPrefix(whole, first) {
			t.Fatalf("RunDesk(%q) = %q, but of the first %d lines it is %q", lines, whole, i, first)
		}
		answer := impl.RunDesk([]string{line})
		if len(answer) < 2 || !strings.HasSuffix(answer, "\n") {
			t.Fatalf("RunDesk(%q) = %q", line, answer)
		}
		each += answer
	}
	if whole != each {
		t.Fatalf("RunDesk(%q) = %q, but of each line it is %q", lines, whole, each)
	}
}
