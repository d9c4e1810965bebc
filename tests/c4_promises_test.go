package tests

import (
	"slices"
	"testing"

	"loop.example/jointjudgments/impl"
)

func TestPromise47GreaterJuriesAreWiser(t *testing.T) {
	t.Parallel()
	for n := 1; n <= maxJury; n += 2 {
		eachChance(func(num int, den int) {
			chance := juryChance(t, n, num, den)
			if opposite := juryChance(t, n, den-num, den); chance+opposite != powerOf(den, n) {
				t.Fatalf("JuryChance(%d, %d, %d) = %d, but %d of one that is wrong as often", n, num, den, chance, opposite)
			}
			if n+2 > maxJury {
				return
			}
			// Over the same number below: two voters more are wiser, if they may be wrong, but are right more often.
			more, less := juryChance(t, n+2, num, den), chance*den*den
			isWiser := num < den && 2*num > den
			isDuller := num > 0 && 2*num < den
			if (more > less) != isWiser || (more < less) != isDuller {
				t.Fatalf("JuryChance(%d, %d, %d) = %d, but %d with two more voters", n, num, den, chance, more)
			}
		})
	}
	for _, x := range []struct{ n, num, den int }{{0, 1, 2}, {-1, 1, 2}, {10, 1, 2}, {11, 1, 2}, {3, -1, 2}, {3, 3, 2}, {3, 0, 0}, {3, 5, 10}} {
		chance, all := impl.JuryChance(x.n, x.num, x.den)
		wantNoChance(t, "JuryChance", chance, all)
	}
}

// TestPromise48EqualExpertsAreAJury takes one weight for all as one of at least 1: with weights of 0 both answers always
// have as much, and so experts are right in half of all cases.
func TestPromise48EqualExpertsAreAJury(t *testing.T) {
	t.Parallel()
	for n := 1; n <= maxVotes; n++ {
		eachChance(func(num int, den int) {
			nums := slices.Repeat([]int{num}, n)
			for weight := range maxWeight + 1 {
				chance := expertChance(t, nums, slices.Repeat([]int{weight}, n), den)
				want := 0
				switch {
				case weight == 0:
					want = powerOf(den, n)
				case n%2 == 1:
					want = 2 * juryChance(t, n, num, den)
				default:
					// Of an even number one only ever makes it as much for as against, so it is as if it were not there.
					want = 2 * den * juryChance(t, n-1, num, den)
				}
				if chance != want {
					t.Fatalf("ExpertChance(%v, %d each, %d) = %d, want %d", nums, weight, den, chance, want)
				}
			}
		})
	}
	for _, x := range []struct {
		nums, weights []int
		den           int
	}{
		{nil, nil, 2}, {[]int{1, 1, 1, 1, 1, 1}, []int{1, 1, 1, 1, 1, 1}, 2}, {[]int{1, 1, 1}, []int{1, 1}, 2}, {[]int{1, 1}, []int{1, 1, 1}, 2},
		{[]int{1, 1, 3}, []int{1, 1, 1}, 2}, {[]int{-1, 1, 1}, []int{1, 1, 1}, 2}, {[]int{1, 1, 1}, []int{6, 6, 6}, 2},
		{[]int{1, 1, 1}, []int{-1, -1, -1}, 2}, {[]int{0, 0, 0}, []int{1, 1, 1}, 0}, {[]int{5, 5, 5}, []int{1, 1, 1}, 10},
	} {
		chance, all := impl.ExpertChance(x.nums, x.weights, x.den)
		wantNoChance(t, "ExpertChance", chance, all)
	}
}

func TestPromise49NoWeightsAreBetterThanTheBest(t *testing.T) {
	t.Parallel()
	eachTeam(100, func(nums []int, den int) {
		n := len(nums)
		weights := impl.BestWeights(nums, den)
		if len(weights) != n || !isAmong(weights, []int{0, 1, 2, 3, 4, 5}) {
			t.Fatalf("BestWeights(%v, %d) = %v", nums, den, weights)
		}
		best := expertChance(t, nums, weights, den)
		for _, others := range edgeWeights(n) {
			if expertChance(t, nums, others, den) > best {
				t.Fatalf("BestWeights(%v, %d) = %v, but %v are better", nums, den, weights, others)
			}
		}
		for i, num := range nums {
			if expertChance(t, nums[i:i+1], []int{1}, den) != 2*num || 2*num*powerOf(den, n-1) > best {
				t.Fatalf("BestWeights(%v, %d) = %v, but the expert %d alone is better", nums, den, weights, i)
			}
		}
		// Of any that are as good none comes before.
		someWeights(n, 1<<8, func(others []int) {
			chance := expertChance(t, nums, others, den)
			if chance > best || chance == best && slices.Compare(others, weights) < 0 {
				t.Fatalf("BestWeights(%v, %d) = %v, and not %v", nums, den, weights, others)
			}
		})
	})
	for _, x := range []struct {
		nums []int
		den  int
	}{{nil, 2}, {[]int{}, 2}, {[]int{1, 1, 1, 1}, 2}, {[]int{1, 1, 1, 1, 1}, 2}, {[]int{3}, 2}, {[]int{1, -1}, 2}, {[]int{0}, 0}, {[]int{5}, 10}} {
		wantNums(t, "BestWeights of no experts", impl.BestWeights(x.nums, x.den))
	}
}

func TestPromise50PremisesAreRightMoreOftenThanWhatFollows(t *testing.T) {
	t.Parallel()
	for n := 1; n <= maxVotes; n++ {
		eachChance(func(num int, den int) {
			premises, follows, all := impl.BothChance(n, num, den)
			if all != powerOf(den, 2*n) || follows < 0 || premises > all {
				t.Fatalf("BothChance(%d, %d, %d) = %d, %d, %d", n, num, den, premises, follows, all)
			}
			// Of up to two voters all must be right, and then all are about both.
			isSame := n <= 2 || num == 0 || num == den
			if premises < follows || (premises == follows) != isSame {
				t.Fatalf("BothChance(%d, %d, %d) = %d, %d", n, num, den, premises, follows)
			}
			premise := juryChance(t, n, num, den)
			if premises != premise*premise {
				t.Fatalf("BothChance(%d, %d, %d) = %d, want %d twice", n, num, den, premises, premise)
			}
			if den <= 3 && follows != juryChance(t, n, num*num, den*den) {
				t.Fatalf("BothChance(%d, %d, %d) = %d, %d", n, num, den, premises, follows)
			}
		})
	}
	for _, x := range []struct{ n, num, den int }{{0, 1, 2}, {-1, 1, 2}, {6, 1, 2}, {9, 1, 2}, {3, -1, 2}, {3, 3, 2}, {3, 0, 0}, {3, 5, 10}} {
		premises, follows, all := impl.BothChance(x.n, x.num, x.den)
		wantNoChance(t, "BothChance", premises, follows, all)
	}
}
