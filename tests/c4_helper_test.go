package tests

import (
	"math/big"
	"slices"
	"testing"

	"loop.example/jointjudgments/impl"
)

// The limits are written out, so that a changed constant is noticed.
const (
	maxDen     = 9
	maxJury    = 9
	maxWeight  = 5
	maxExperts = 3
)

// eachChance calls visit with all chances, over all numbers below them.
func eachChance(visit func(num int, den int)) {
	for den := 1; den <= maxDen; den++ {
		for num := range den + 1 {
			visit(num, den)
		}
	}
}

// digitsOf returns the n digits of a number, the last one being the least.
func digitsOf(k int, base int, n int) []int {
	digits := make([]int, n)
	for i := n - 1; i >= 0; i-- {
		digits[i] = k % base
		k /= base
	}
	return digits
}

// powerOf returns the product of n times the base.
func powerOf(base int, n int) int {
	product := 1
	for range n {
		product *= base
	}
	return product
}

// someNums calls visit with the chances of n experts over den, all if these are at most most, and about as many otherwise.
func someNums(n int, den int, most int, visit func(nums []int)) {
	many := powerOf(den+1, n)
	step := (many + most - 1) / most
	for haveCommonFactor(step, den+1) {
		step++
	}
	for k := many - 1; k >= 0; k -= step {
		visit(digitsOf(k, den+1, n))
	}
}

// someWeights calls visit with the weights of n experts, as someNums with their chances.
func someWeights(n int, most int, visit func(weights []int)) {
	someNums(n, maxWeight, most, visit)
}

// edgeWeights returns equal weights of n experts, those of each of them alone, and those by which half are as much as the others.
func edgeWeights(n int) [][]int {
	var lists [][]int
	for weight := range maxWeight + 1 {
		lists = append(lists, slices.Repeat([]int{weight}, n))
	}
	for i := range n {
		alone := make([]int, n)
		alone[i] = 1
		lists = append(lists, alone)
		asMuch := slices.Repeat([]int{1}, n)
		asMuch[i] = n - 1
		lists = append(lists, asMuch)
	}
	return lists
}

// eachPanel calls visit with some chances and some weights of experts, of each number of them and over each number below.
func eachPanel(visit func(nums []int, weights []int, den int)) {
	for n := 1; n <= maxVotes; n++ {
		for den := 1; den <= maxDen; den++ {
			someNums(n, den, 12, func(nums []int) {
				for _, weights := range edgeWeights(n) {
					visit(nums, weights, den)
				}
				someWeights(n, 40, func(weights []int) { visit(nums, weights, den) })
			})
		}
	}
}

// eachTeam calls visit with chances of so few experts that their best weights are searched: of each number of them, and
// over each number below, all if these are at most most, and about as many otherwise.
func eachTeam(most int, visit func(nums []int, den int)) {
	for n := 1; n <= maxExperts; n++ {
		for den := 1; den <= maxDen; den++ {
			someNums(n, den, most, func(nums []int) { visit(nums, den) })
		}
	}
}

// expertChance returns the first number of ExpertChance, and checks the second one.
func expertChance(t *testing.T, nums []int, weights []int, den int) int {
	t.Helper()
	chance, all := impl.ExpertChance(nums, weights, den)
	if all != 2*powerOf(den, len(nums)) || chance < 0 || chance > all {
		t.Fatalf("ExpertChance(%v, %v, %d) = %d, %d", nums, weights, den, chance, all)
	}
	return chance
}

// juryChance returns the first number of JuryChance, and checks the second one.
func juryChance(t *testing.T, n int, num int, den int) int {
	t.Helper()
	chance, all := impl.JuryChance(n, num, den)
	if all != powerOf(den, n) || chance < 0 || chance > all {
		t.Fatalf("JuryChance(%d, %d, %d) = %d, %d", n, num, den, chance, all)
	}
	return chance
}

// isFraction reports whether one number over another one is a chance.
func isFraction(above int, below int, chance *big.Rat) bool {
	return below > 0 && big.NewRat(int64(above), int64(below)).Cmp(chance) == 0
}

// wantNoChance checks that each number is -1.
func wantNoChance(t *testing.T, name string, got ...int) {
	t.Helper()
	for _, number := range got {
		if number != -1 {
			t.Errorf("%s = %v, want -1 each", name, got)
			return
		}
	}
}
