package tests

import "math/big"

// The functions of this file, too, follow the words of the document. Chances are exact fractions, and each expert that is
// added splits what may have been so far into what is with it right, and what is with it wrong.

// splitInto adds to what may be a chance of some of it.
func splitInto[K comparable](chances map[K]*big.Rat, key K, chance *big.Rat, part *big.Rat) {
	if chances[key] == nil {
		chances[key] = new(big.Rat)
	}
	chances[key].Add(chances[key], new(big.Rat).Mul(chance, part))
}

// sharesOf returns the chances to be right and to be wrong.
func sharesOf(num int, den int) (*big.Rat, *big.Rat) {
	return big.NewRat(int64(num), int64(den)), big.NewRat(int64(den-num), int64(den))
}

// weightChances returns for each pair of the weights that are right, together, and those that are wrong, together, its chance.
func weightChances(nums []int, weights []int, den int) map[[2]int]*big.Rat {
	chances := map[[2]int]*big.Rat{{}: big.NewRat(1, 1)}
	for i, num := range nums {
		right, wrong := sharesOf(num, den)
		next := map[[2]int]*big.Rat{}
		for sums, chance := range chances {
			splitInto(next, [2]int{sums[0] + weights[i], sums[1]}, chance, right)
			splitInto(next, [2]int{sums[0], sums[1] + weights[i]}, chance, wrong)
		}
		chances = next
	}
	return chances
}

// expertsByWords returns the chance that that answer is right for which more than half of all weights are, or, if both
// have as much, either one with the chance of a half.
func expertsByWords(nums []int, weights []int, den int) *big.Rat {
	sum := new(big.Rat)
	for sums, chance := range weightChances(nums, weights, den) {
		switch {
		case sums[0] > sums[1]:
			sum.Add(sum, chance)
		case sums[0] == sums[1]:
			sum.Add(sum, new(big.Rat).Mul(chance, big.NewRat(1, 2)))
		}
	}
	return sum
}

// moreThanHalfOf returns the chance that what is counted is more than half of n.
func moreThanHalfOf[K comparable](n int, chances map[K]*big.Rat, counts func(key K) []int) *big.Rat {
	sum := new(big.Rat)
	for key, chance := range chances {
		isMore := true
		for _, count := range counts(key) {
			isMore = isMore && 2*count > n
		}
		if isMore {
			sum.Add(sum, chance)
		}
	}
	return sum
}

// juryByWords returns the chance that more than half of n voters are right.
func juryByWords(n int, num int, den int) *big.Rat {
	right, wrong := sharesOf(num, den)
	chances := map[int]*big.Rat{0: big.NewRat(1, 1)}
	for range n {
		next := map[int]*big.Rat{}
		for count, chance := range chances {
			splitInto(next, count+1, chance, right)
			splitInto(next, count, chance, wrong)
		}
		chances = next
	}
	return moreThanHalfOf(n, chances, func(count int) []int { return []int{count} })
}

// premiseCounts is how many voters judge the one premise right, how many the other one, and how many both.
type premiseCounts struct {
	one, other, both int
}

// bothByWords returns the chance that each premise is judged right by more than half of n voters, and the chance that both
// are by more than half.
func bothByWords(n int, num int, den int) (*big.Rat, *big.Rat) {
	right, wrong := sharesOf(num, den)
	chances := map[premiseCounts]*big.Rat{{}: big.NewRat(1, 1)}
	for range n {
		next := map[premiseCounts]*big.Rat{}
		for c, chance := range chances {
			splitInto(next, premiseCounts{c.one + 1, c.other + 1, c.both + 1}, chance, new(big.Rat).Mul(right, right))
			splitInto(next, premiseCounts{c.one + 1, c.other, c.both}, chance, new(big.Rat).Mul(right, wrong))
			splitInto(next, premiseCounts{c.one, c.other + 1, c.both}, chance, new(big.Rat).Mul(wrong, right))
			splitInto(next, c, chance, new(big.Rat).Mul(wrong, wrong))
		}
		chances = next
	}
	premises := moreThanHalfOf(n, chances, func(c premiseCounts) []int { return []int{c.one, c.other} })
	return premises, moreThanHalfOf(n, chances, func(c premiseCounts) []int { return []int{c.both} })
}

// bestByWords returns of all weights the first ones with the greatest chance.
func bestByWords(nums []int, den int) []int {
	var best []int
	most := big.NewRat(-1, 1)
	for k := range powerOf(maxWeight+1, len(nums)) {
		weights := digitsOf(k, maxWeight+1, len(nums))
		if chance := expertsByWords(nums, weights, den); chance.Cmp(most) > 0 {
			best, most = weights, chance
		}
	}
	return best
}
