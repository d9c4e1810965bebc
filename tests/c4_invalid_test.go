package tests

import (
	"math"
	"runtime"
	"slices"
	"sync"
	"testing"
	"time"

	"loop.example/jointjudgments/impl"
)

// checkNoChances checks the fixed result of each function for what is no chance.
func checkNoChances(t *testing.T, num int, den int) {
	t.Helper()
	for n := 1; n <= maxJury; n++ {
		chance, all := impl.JuryChance(n, num, den)
		wantNoChance(t, "JuryChance", chance, all)
		premises, follows, all := impl.BothChance(n, num, den)
		wantNoChance(t, "BothChance", premises, follows, all)
	}
	for n := 1; n <= maxVotes; n++ {
		// One that is not valid is enough.
		for i := range n {
			nums := make([]int, n)
			nums[i] = num
			chance, all := impl.ExpertChance(nums, make([]int, n), den)
			wantNoChance(t, "ExpertChance", chance, all)
			wantNums(t, "BestWeights", impl.BestWeights(nums, den))
		}
	}
}

func TestChancesThatAreNotValid(t *testing.T) {
	for den := 1; den <= maxDen; den++ {
		for _, num := range []int{-1, -2, -den, den + 1, 2 * den, 2*den + 1, 100, math.MaxInt, math.MinInt} {
			checkNoChances(t, num, den)
		}
	}
	for _, den := range append(farNumbers(), 0, maxDen+1, 11) {
		for _, num := range []int{0, 1, -1, den, den - 1, math.MaxInt, math.MinInt} {
			checkNoChances(t, num, den)
		}
	}
}

func TestNumbersOfJurorsThatAreNotValid(t *testing.T) {
	for _, n := range append(farNumbers(), 0, maxVotes+1, maxJury, maxJury+1) {
		for _, x := range [][2]int{{0, 1}, {1, 1}, {1, 2}, {9, 9}} {
			premises, follows, all := impl.BothChance(n, x[0], x[1])
			wantNoChance(t, "BothChance", premises, follows, all)
			if n < 1 || n > maxJury {
				chance, all := impl.JuryChance(n, x[0], x[1])
				wantNoChance(t, "JuryChance", chance, all)
			}
		}
	}
	for n := 1; n <= maxJury; n++ {
		wantNumber(t, "JuryChance at the limit", juryChance(t, n, maxDen, maxDen), powerOf(maxDen, n))
	}
	for n := 1; n <= maxVotes; n++ {
		premises, follows, all := impl.BothChance(n, maxDen, maxDen)
		wantNums(t, "BothChance at the limit", []int{premises, follows}, all, all)
	}
}

func TestNumbersOfExpertsThatAreNotValid(t *testing.T) {
	ones := slices.Repeat([]int{1}, 100)
	for n := range 100 {
		for m := range 12 {
			chance, all := impl.ExpertChance(ones[:n], ones[:m], 2)
			if n == m && n >= 1 && n <= maxVotes {
				wantNums(t, "ExpertChance at the limit", []int{chance}, all/2)
			} else {
				wantNoChance(t, "ExpertChance", chance, all)
			}
		}
		if got := impl.BestWeights(ones[:n], 2); (len(got) > 0) != (n >= 1 && n <= maxExperts) {
			t.Fatalf("BestWeights of %d experts = %v", n, got)
		}
	}
	chance, all := impl.ExpertChance(nil, nil, 2)
	wantNoChance(t, "ExpertChance of none", chance, all)
	wantNums(t, "BestWeights of none", impl.BestWeights(nil, 2))
}

func TestWeightsThatAreNotValid(t *testing.T) {
	for n := 1; n <= maxVotes; n++ {
		for i := range n {
			for _, weight := range append(farNumbers(), maxWeight+1, maxWeight+2) {
				weights := slices.Repeat([]int{1}, n)
				weights[i] = weight
				chance, all := impl.ExpertChance(make([]int, n), weights, 2)
				wantNoChance(t, "ExpertChance", chance, all)
			}
			for _, weight := range []int{0, maxWeight} {
				weights := slices.Repeat([]int{weight}, n)
				wantNumber(t, "ExpertChance at the limit", expertChance(t, slices.Repeat([]int{1}, n), weights, 2), powerOf(2, n))
			}
		}
	}
}

// TestMemoryOfExperts checks that no function changes its arguments, keeps them, or gives parts of them out.
func TestMemoryOfExperts(t *testing.T) {
	for _, nums := range [][]int{{3}, {3, 2}, {3, 3, 3}, {0, 4, 2}, {1, 2, 3, 4}, {0, 1, 2, 3, 4}, {5, 1}} {
		list, memory := filled(nums)
		weights, weightMemory := filled([]int{2, 0, 3, 1, 5}[:len(nums)])
		before, weightsBefore := slices.Clone(memory), slices.Clone(weightMemory)
		chance, all := impl.ExpertChance(list, weights, 4)
		got := impl.BestWeights(list, 4)
		want := slices.Clone(got)
		spoil(got)
		if !slices.Equal(memory, before) || !slices.Equal(weightMemory, weightsBefore) {
			t.Errorf("the arguments %v and %v are changed, or given out", memory, weightMemory)
		}
		wantNums(t, "BestWeights once more", impl.BestWeights(list, 4), want...)
		again, allAgain := impl.ExpertChance(list, weights, 4)
		wantNums(t, "ExpertChance once more", []int{again, allAgain}, chance, all)
	}
}

// TestNothingRunsOn checks that what a call starts comes to its end, for valid arguments and for others.
func TestNothingRunsOn(t *testing.T) {
	before := runtime.NumGoroutine()
	for n := range maxVotes + 2 {
		nums := slices.Repeat([]int{2}, n)
		impl.JuryChance(n, 2, 3)
		impl.BothChance(n, 2, 3)
		impl.BestWeights(nums, 3)
		impl.ExpertChance(nums, nums, 3)
		impl.ExpertChance(nums, make([]int, n), 3)
		impl.ExpertChance(nums, nums, 1)
	}
	// What has been closed may need a moment until it is gone.
	for range 1000 {
		if runtime.NumGoroutine() <= before {
			return
		}
		time.Sleep(time.Millisecond)
	}
	t.Errorf("%d run, and %d did before", runtime.NumGoroutine(), before)
}

// TestCallsAtTheSameTime checks that calls that run at the same time do not change each other's results.
func TestCallsAtTheSameTime(t *testing.T) {
	var calls sync.WaitGroup
	for range 20 {
		calls.Go(func() {
			chance, all := impl.JuryChance(5, 2, 3)
			wantNums(t, "JuryChance", []int{chance, all}, 192, 243)
			wantNums(t, "BestWeights", impl.BestWeights([]int{3, 3, 3}, 4), 1, 1, 1)
			premises, follows, all := impl.BothChance(3, 2, 3)
			wantNums(t, "BothChance", []int{premises, follows, all}, 400, 304, 729)
		})
	}
	calls.Wait()
}
