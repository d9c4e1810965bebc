package tests

import (
	"cmp"
	"math/big"
	"slices"
)

// The functions of this file, too, follow the words of the document. A ballot and a committee are lists of names,
// ascending, and a group is a list of the indices of its ballots.

// namesIn returns the names of a sum of 2 to each of them.
func namesIn(sum int) []int {
	var names []int
	for name := range maxNames {
		if answer(sum, name) == 1 {
			names = append(names, name)
		}
	}
	return names
}

// bothIn returns the names that are in both lists.
func bothIn(a []int, b []int) []int {
	var both []int
	for _, name := range a {
		if slices.Contains(b, name) {
			both = append(both, name)
		}
	}
	return both
}

// committeesByWords returns all sets of k of c names as sums, the least first.
func committeesByWords(c int, k int) []int {
	var sums []int
	for _, names := range groupsByWords(c) {
		if len(names) == k {
			sums = append(sums, groupNumber(names))
		}
	}
	slices.Sort(sums)
	return sums
}

// metByWords returns for each ballot how many names of the committee it approves of.
func metByWords(ballots []int, w int) []int {
	met := make([]int, len(ballots))
	for i, ballot := range ballots {
		met[i] = len(bothIn(namesIn(ballot), namesIn(w)))
	}
	return met
}

// scoreByWords returns the score of a name of a committee.
func scoreByWords(name string, ballots []int, w int) *big.Rat {
	sum, least := new(big.Rat), int64(maxNames)
	for _, met := range metByWords(ballots, w) {
		least = min(least, int64(met))
		switch {
		case name == "approval":
			sum.Add(sum, big.NewRat(int64(met), 1))
		case name == "cover" && met > 0:
			sum.Add(sum, big.NewRat(1, 1))
		case name == "harmonic":
			for m := 1; m <= met; m++ {
				sum.Add(sum, big.NewRat(60, int64(m)))
			}
		}
	}
	if name == "least" {
		return big.NewRat(least, 1)
	}
	return sum
}

// bestCommitteesByWords returns the committees of k names than which none has a greater score.
func bestCommitteesByWords(name string, c int, ballots []int, k int) []int {
	var best []int
	var most *big.Rat
	for _, w := range committeesByWords(c, k) {
		score := scoreByWords(name, ballots, w)
		if most == nil || score.Cmp(most) > 0 {
			best, most = nil, score
		}
		if score.Cmp(most) == 0 {
			best = append(best, w)
		}
	}
	return best
}

// greedyByWords returns k names: all that are not there yet are put in order, the greatest score with it first, the least
// of several first, and the first one is taken.
func greedyByWords(name string, c int, ballots []int, k int) []int {
	var names []int
	for range k {
		left := othersOf(c, names)
		slices.SortStableFunc(left, func(a int, b int) int {
			withA := scoreByWords(name, ballots, groupNumber(names)+powerOf(2, a))
			withB := scoreByWords(name, ballots, groupNumber(names)+powerOf(2, b))
			return withB.Cmp(withA)
		})
		names = append(names, left[0])
	}
	return names
}

// dueGroup is a group, and how many names are due to it.
type dueGroup struct {
	group []int
	due   int
}

// sameIn returns the names of which all ballots of a group approve.
func sameIn(c int, ballots []int, group []int) []int {
	same := othersOf(c, nil)
	for _, i := range group {
		same = bothIn(same, namesIn(ballots[i]))
	}
	return same
}

// dueByWords returns all groups with what is due to them, the least number first, and then the least sum.
func dueByWords(c int, ballots []int, k int) []dueGroup {
	var list []dueGroup
	for _, group := range groupsByWords(len(ballots)) {
		same := len(sameIn(c, ballots, group))
		for l := 1; l <= k; l++ {
			if len(group)*k >= l*len(ballots) && same >= l {
				list = append(list, dueGroup{group: group, due: l})
			}
		}
	}
	slices.SortFunc(list, func(a dueGroup, b dueGroup) int {
		return cmp.Or(a.due-b.due, groupNumber(a.group)-groupNumber(b.group))
	})
	return list
}

// isWrongedByWords reports whether a group with what is due to it is wronged by the claim and the committee.
func isWrongedByWords(claim string, ballots []int, g dueGroup, w int) bool {
	var together []int
	most := 0
	for _, i := range g.group {
		met := bothIn(namesIn(ballots[i]), namesIn(w))
		most = max(most, len(met))
		together = append(together, met...)
	}
	slices.Sort(together)
	different := len(slices.Compact(together))
	switch claim {
	case "one":
		return g.due == 1 && different == 0
	case "together":
		return different < g.due
	}
	return most < g.due
}

// firstWrongedByWords returns the sum and what is due of the first of the groups that is wronged, or 0 and 0.
func firstWrongedByWords(claim string, ballots []int, list []dueGroup, w int) (int, int) {
	for _, g := range list {
		if isWrongedByWords(claim, ballots, g, w) {
			return groupNumber(g.group), g.due
		}
	}
	return 0, 0
}
