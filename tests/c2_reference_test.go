package tests

import (
	"slices"

	"loop.example/jointjudgments/impl"
)

// The functions of this file, too, follow the words of the document answer by answer.

// countsOf returns how many of the votes answer 0, and how many 1, to the issue j.
func countsOf(votes []int, j int) [2]int {
	var counts [2]int
	for _, x := range votes {
		counts[answer(x, j)]++
	}
	return counts
}

// supportByWords returns how many of the votes answer 1 to each issue.
func supportByWords(s impl.Space, votes []int) []int {
	var support []int
	for j := range s.Issues {
		support = append(support, countsOf(votes, j)[1])
	}
	return support
}

// majorityByWords returns the number with 1 where more than half of the votes answer 1.
func majorityByWords(s impl.Space, votes []int) int {
	var answers []int
	for j := range s.Issues {
		counts := countsOf(votes, j)
		if counts[1] > counts[0] {
			answers = append(answers, 1)
		} else {
			answers = append(answers, 0)
		}
	}
	return numberOf(answers)
}

// quotaByWords returns the number with 1 where the votes that answer 1 reach the quota.
func quotaByWords(votes []int, quotas []int) int {
	var answers []int
	for j, q := range quotas {
		if countsOf(votes, j)[1] >= q {
			answers = append(answers, 1)
		} else {
			answers = append(answers, 0)
		}
	}
	return numberOf(answers)
}

// quotaSafeByWords reports whether the numbers of the answers of each critical part are great enough.
func quotaSafeByWords(s impl.Space, n int, quotas []int) bool {
	for _, p := range criticalByWords(s) {
		together := 0
		for j := range s.Issues {
			if answer(p.Care, j) == 0 {
				continue
			}
			if answer(p.Bits, j) == 1 {
				together += quotas[j]
			} else {
				together += n + 1 - quotas[j]
			}
		}
		if !(together > n*(sizeOf(p)-1)) {
			return false
		}
	}
	return true
}

// leastByWords returns the judgments of the space with the least of these numbers.
func leastByWords(s impl.Space, number func(x int) int) []int {
	least := number(s.All[0])
	for _, x := range s.All {
		if number(x) < least {
			least = number(x)
		}
	}
	var out []int
	for _, x := range s.All {
		if number(x) == least {
			out = append(out, x)
		}
	}
	return out
}

// medianByWords returns the judgments with the least sum of gaps.
func medianByWords(s impl.Space, votes []int) []int {
	return leastByWords(s, func(x int) int {
		sum := 0
		for _, vote := range votes {
			sum += gapByWords(x, vote)
		}
		return sum
	})
}

// middleByWords returns the judgments with the least greatest gap.
func middleByWords(s impl.Space, votes []int) []int {
	return leastByWords(s, func(x int) int {
		var gaps []int
		for _, vote := range votes {
			gaps = append(gaps, gapByWords(x, vote))
		}
		return slices.Max(gaps)
	})
}

// wantedByWords returns for each issue that has one the answer of more than half of the votes.
func wantedByWords(s impl.Space, votes []int) map[int]int {
	wanted := map[int]int{}
	for j := range s.Issues {
		for a, count := range countsOf(votes, j) {
			if 2*count > len(votes) {
				wanted[j] = a
			}
		}
	}
	return wanted
}

// partOfAnswers returns the part with these answers.
func partOfAnswers(answers map[int]int) impl.Part {
	var p impl.Part
	for j, a := range answers {
		p.Care += 1 << j
		p.Bits += a << j
	}
	return p
}

// givenOf returns which of the wanted answers a judgment gives.
func givenOf(wanted map[int]int, x int) []int {
	var issues []int
	for j := range maxIssues {
		if a, ok := wanted[j]; ok && answer(x, j) == a {
			issues = append(issues, j)
		}
	}
	return issues
}

// keepsMoreByWords reports whether y gives all wanted answers that x gives, and more.
func keepsMoreByWords(wanted map[int]int, y int, x int) bool {
	of, by := givenOf(wanted, x), givenOf(wanted, y)
	return isAmong(of, by) && len(by) > len(of)
}

// keptByWords returns the judgments for which no other one keeps all that they keep, and more.
func keptByWords(s impl.Space, votes []int) []int {
	wanted := wantedByWords(s, votes)
	var out []int
	for _, x := range s.All {
		if !slices.ContainsFunc(s.All, func(y int) bool { return keepsMoreByWords(wanted, y, x) }) {
			out = append(out, x)
		}
	}
	return out
}

// slaterByWords returns the judgments that give the most wanted answers.
func slaterByWords(s impl.Space, votes []int) []int {
	wanted := wantedByWords(s, votes)
	return leastByWords(s, func(x int) int { return -len(givenOf(wanted, x)) })
}

// turnByWords returns the judgment that is left when all others are left out issue by issue.
func turnByWords(s impl.Space, votes []int, order []int) int {
	left := slices.Clone(s.All)
	for _, j := range order {
		a := answer(majorityByWords(s, votes), j)
		var with []int
		for _, x := range left {
			if answer(x, j) == a {
				with = append(with, x)
			}
		}
		if len(with) > 0 {
			left = with
		}
	}
	return left[0]
}

// rankedByWords returns the same for the issues by how much both counts differ.
func rankedByWords(s impl.Space, votes []int) int {
	var order []int
	for difference := len(votes); difference >= 0; difference-- {
		for j := range s.Issues {
			counts := countsOf(votes, j)
			if max(counts[0], counts[1])-min(counts[0], counts[1]) == difference {
				order = append(order, j)
			}
		}
	}
	return turnByWords(s, votes, order)
}

// premiseByWords returns the judgments that answer the premises as the majority.
func premiseByWords(s impl.Space, votes []int, premises int) []int {
	majority := majorityByWords(s, votes)
	var out []int
	for _, x := range s.All {
		ok := true
		for j := range s.Issues {
			ok = ok && (answer(premises, j) == 0 || answer(x, j) == answer(majority, j))
		}
		if ok {
			out = append(out, x)
		}
	}
	return out
}

// standsAtOneEnd reports whether the votes with 1 to the issue j stand next to each other at one end of the order, or are none or all.
func standsAtOneEnd(votes []int, order []int, j int) bool {
	many := countsOf(votes, j)[1]
	var ahead, behind int
	for place, i := range order {
		if place < many {
			ahead += answer(votes[i], j)
		}
		if place >= len(order)-many {
			behind += answer(votes[i], j)
		}
	}
	return ahead == many || behind == many
}

// isLine reports whether the votes with 1 to each issue stand so.
func isLine(s impl.Space, votes []int, order []int) bool {
	for j := range s.Issues {
		if !standsAtOneEnd(votes, order, j) {
			return false
		}
	}
	return true
}

// lineByWords returns the first order in which the votes are lined up, nil if there is none; orders has all of so many.
func lineByWords(s impl.Space, votes []int, orders [][]int) []int {
	for _, order := range orders {
		if isLine(s, votes, order) {
			return order
		}
	}
	return nil
}
