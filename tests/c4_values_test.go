package tests

import (
	"slices"
	"testing"

	"loop.example/jointjudgments/impl"
)

func TestLimitsOfJuries(t *testing.T) {
	wantNumber(t, "MaxDen", impl.MaxDen, maxDen)
	wantNumber(t, "MaxJury", impl.MaxJury, maxJury)
	wantNumber(t, "MaxWeight", impl.MaxWeight, maxWeight)
	wantNumber(t, "MaxExperts", impl.MaxExperts, maxExperts)
}

func TestJuryChanceByWords(t *testing.T) {
	t.Parallel()
	for n := 1; n <= maxJury; n++ {
		eachChance(func(num int, den int) {
			if got := juryChance(t, n, num, den); !isFraction(got, powerOf(den, n), juryByWords(n, num, den)) {
				t.Fatalf("JuryChance(%d, %d, %d) = %d, want %v", n, num, den, got, juryByWords(n, num, den))
			}
		})
	}
}

func TestExpertChanceByWords(t *testing.T) {
	t.Parallel()
	eachPanel(func(nums []int, weights []int, den int) {
		got, want := expertChance(t, nums, weights, den), expertsByWords(nums, weights, den)
		if !isFraction(got, 2*powerOf(den, len(nums)), want) {
			t.Fatalf("ExpertChance(%v, %v, %d) = %d, want %v", nums, weights, den, got, want)
		}
	})
}

func TestBestWeightsByWords(t *testing.T) {
	t.Parallel()
	eachTeam(100, func(nums []int, den int) {
		if got, want := impl.BestWeights(nums, den), bestByWords(nums, den); !slices.Equal(got, want) {
			t.Fatalf("BestWeights(%v, %d) = %v, want %v", nums, den, got, want)
		}
	})
}

func TestBothChanceByWords(t *testing.T) {
	t.Parallel()
	for n := 1; n <= maxVotes; n++ {
		eachChance(func(num int, den int) {
			one, two, all := impl.BothChance(n, num, den)
			premises, follows := bothByWords(n, num, den)
			if all != powerOf(den, 2*n) || !isFraction(one, all, premises) || !isFraction(two, all, follows) {
				t.Fatalf("BothChance(%d, %d, %d) = %d, %d, %d, want %v, %v", n, num, den, one, two, all, premises, follows)
			}
		})
	}
}

// TestJuryChance has chances that are counted by hand, none of them put into lesser numbers.
func TestJuryChance(t *testing.T) {
	for _, x := range []struct{ n, num, den, chance, all int }{
		{1, 2, 3, 2, 3}, {3, 2, 3, 20, 27}, {5, 2, 3, 192, 243}, {3, 1, 3, 7, 27}, {3, 2, 4, 32, 64},
		// Half of the voters are not more than half.
		{2, 2, 3, 4, 9}, {4, 2, 3, 48, 81}, {2, 1, 2, 1, 4}, {8, 1, 2, 93, 256},
		{3, 1, 2, 4, 8}, {9, 1, 2, 256, 512},
		// Chances of 0 and of 1.
		{1, 0, 1, 0, 1}, {1, 1, 1, 1, 1}, {9, 0, 1, 0, 1}, {9, 1, 1, 1, 1}, {2, 3, 3, 9, 9}, {2, 0, 3, 0, 9},
		{9, 0, 9, 0, 387420489}, {9, 9, 9, 387420489, 387420489},
	} {
		if chance, all := impl.JuryChance(x.n, x.num, x.den); chance != x.chance || all != x.all {
			t.Errorf("JuryChance(%d, %d, %d) = %d, %d, want %d, %d", x.n, x.num, x.den, chance, all, x.chance, x.all)
		}
	}
}

func TestExpertChance(t *testing.T) {
	for _, x := range []struct {
		nums, weights []int
		den           int
		chance, all   int
	}{
		{[]int{3, 2}, []int{1, 1}, 4, 20, 32}, {[]int{3, 2}, []int{2, 1}, 4, 24, 32}, {[]int{3, 2}, []int{1, 2}, 4, 16, 32},
		{[]int{2, 2, 2}, []int{1, 1, 1}, 3, 40, 54}, {[]int{2, 2, 2}, []int{2, 0, 0}, 3, 36, 54}, {[]int{2, 2, 2}, []int{5, 1, 1}, 3, 36, 54},
		// The first one has as much as both others.
		{[]int{2, 2, 2}, []int{2, 1, 1}, 3, 38, 54},
		// One for and one against, each with the chance of 1.
		{[]int{1, 0}, []int{1, 1}, 1, 1, 2}, {[]int{1, 0}, []int{5, 4}, 1, 2, 2}, {[]int{1, 0}, []int{4, 5}, 1, 0, 2},
		// Weights of 0 are no more for than against.
		{[]int{1}, []int{0}, 2, 2, 4}, {[]int{0}, []int{0}, 9, 9, 18}, {[]int{9}, []int{0}, 9, 9, 18}, {[]int{2, 2, 2}, []int{0, 0, 0}, 3, 27, 54},
		{[]int{9, 0}, []int{0, 1}, 9, 0, 162}, {[]int{9, 0}, []int{1, 0}, 9, 162, 162},
		{[]int{0}, []int{5}, 9, 0, 18}, {[]int{9}, []int{5}, 9, 18, 18},
		{[]int{1, 1, 1, 1, 1}, []int{5, 4, 3, 2, 1}, 2, 32, 64},
		{[]int{9, 9, 9, 9, 9}, []int{5, 5, 5, 5, 5}, 9, 118098, 118098},
	} {
		if chance, all := impl.ExpertChance(x.nums, x.weights, x.den); chance != x.chance || all != x.all {
			t.Errorf("ExpertChance(%v, %v, %d) = %d, %d, want %d, %d", x.nums, x.weights, x.den, chance, all, x.chance, x.all)
		}
	}
}

func TestBestWeights(t *testing.T) {
	for _, x := range []struct {
		nums    []int
		den     int
		weights []int
	}{
		{[]int{2}, 3, []int{1}}, {[]int{1}, 1, []int{1}}, {[]int{9}, 9, []int{1}},
		// An expert that is wrong at least as often as right has no weight.
		{[]int{1}, 2, []int{0}}, {[]int{1}, 3, []int{0}}, {[]int{0}, 1, []int{0}},
		{[]int{1, 1}, 3, []int{0, 0}}, {[]int{0, 3}, 4, []int{0, 1}}, {[]int{0, 0, 0}, 9, []int{0, 0, 0}},
		{[]int{3, 2}, 4, []int{1, 0}}, {[]int{2, 3}, 4, []int{0, 1}},
		// Of two as good ones, together or alone, the last one alone comes first.
		{[]int{3, 3}, 4, []int{0, 1}}, {[]int{9, 9, 9}, 9, []int{0, 0, 1}}, {[]int{3, 3, 2}, 4, []int{0, 1, 0}},
		{[]int{3, 3, 3}, 4, []int{1, 1, 1}}, {[]int{8, 6, 6}, 9, []int{1, 0, 0}}, {[]int{4, 3, 3}, 4, []int{1, 0, 0}},
	} {
		wantNums(t, "BestWeights", impl.BestWeights(x.nums, x.den), x.weights...)
	}
}

func TestBothChance(t *testing.T) {
	for _, x := range []struct{ n, num, den, premises, follows, all int }{
		{3, 2, 3, 400, 304, 729}, {3, 1, 2, 16, 10, 64}, {1, 1, 2, 1, 1, 4}, {1, 2, 3, 4, 4, 9}, {2, 1, 2, 1, 1, 16},
		{3, 1, 1, 1, 1, 1}, {3, 0, 1, 0, 0, 1}, {5, 0, 9, 0, 0, 3486784401}, {5, 9, 9, 3486784401, 3486784401, 3486784401},
	} {
		premises, follows, all := impl.BothChance(x.n, x.num, x.den)
		if premises != x.premises || follows != x.follows || all != x.all {
			t.Errorf("BothChance(%d, %d, %d) = %d, %d, %d", x.n, x.num, x.den, premises, follows, all)
		}
	}
}
