package tests

import (
	"math/big"
	"regexp"
	"slices"
	"strconv"
	"strings"

	"loop.example/jointjudgments/impl"
)

// The functions of this file, too, follow the words of the document, with exact fractions.

// whole returns a number as a fraction.
func whole(x int) *big.Rat {
	return big.NewRat(int64(x), 1)
}

// sumOfRats returns the sum of fractions.
func sumOfRats(list []*big.Rat) *big.Rat {
	sum := new(big.Rat)
	for _, x := range list {
		sum.Add(sum, x)
	}
	return sum
}

// approversByWords returns the indices of the ballots that approve of a name.
func approversByWords(ballots []int, name int) []int {
	var indices []int
	for i, ballot := range ballots {
		if slices.Contains(namesIn(ballot), name) {
			indices = append(indices, i)
		}
	}
	return indices
}

// ratsAt returns the fractions with these indices.
func ratsAt(list []*big.Rat, indices []int) []*big.Rat {
	var out []*big.Rat
	for _, i := range indices {
		out = append(out, list[i])
	}
	return out
}

// leastNameByWords returns the name with the least of the fractions, the least name of several, and this fraction; false
// if there is none.
func leastNameByWords(shares map[int]*big.Rat) (int, *big.Rat, bool) {
	for name := range maxNames {
		share, ok := shares[name]
		isLeast := func() bool {
			for _, other := range shares {
				if other.Cmp(share) < 0 {
					return false
				}
			}
			return true
		}
		if ok && isLeast() {
			return name, share, true
		}
	}
	return 0, nil, false
}

// loadedByWords returns the names, the loads, and the product of the numbers by which was divided.
func loadedByWords(c int, ballots []int, k int) ([]int, []*big.Rat, int) {
	var names []int
	loads := make([]*big.Rat, len(ballots))
	for i := range loads {
		loads[i] = new(big.Rat)
	}
	product := 1
	for range k {
		left := othersOf(c, names)
		shared := map[int]*big.Rat{}
		for _, name := range left {
			if by := approversByWords(ballots, name); len(by) > 0 {
				sum := sumOfRats(append(ratsAt(loads, by), whole(1)))
				shared[name] = sum.Quo(sum, whole(len(by)))
			}
		}
		next, share, ok := leastNameByWords(shared)
		if !ok {
			names = append(names, slices.Min(left))
			continue
		}
		names = append(names, next)
		by := approversByWords(ballots, next)
		product *= len(by)
		for _, i := range by {
			loads[i] = share
		}
	}
	return names, loads, product
}

// paidByWords returns what purses pay together if each pays the share, or all that it has if this is less.
func paidByWords(purses []*big.Rat, share *big.Rat) *big.Rat {
	paid := new(big.Rat)
	for _, purse := range purses {
		if purse.Cmp(share) < 0 {
			paid.Add(paid, purse)
		} else {
			paid.Add(paid, share)
		}
	}
	return paid
}

// leastShareByWords returns the least share that is enough for the price, nil if there is none: for each number of purses
// that may pay all, what the others would have to pay is tried.
func leastShareByWords(purses []*big.Rat, price *big.Rat) *big.Rat {
	sorted := slices.SortedFunc(slices.Values(purses), func(a *big.Rat, b *big.Rat) int { return a.Cmp(b) })
	var least *big.Rat
	for all := range sorted {
		share := new(big.Rat).Sub(price, sumOfRats(sorted[:all]))
		share.Quo(share, whole(len(sorted)-all))
		isEnough := share.Sign() >= 0 && paidByWords(purses, share).Cmp(price) >= 0
		if isEnough && (least == nil || share.Cmp(least) < 0) {
			least = share
		}
	}
	return least
}

// boughtByWords returns the names, what is left in the purses, and the product of the numbers of ballots that pay a share.
func boughtByWords(c int, ballots []int, k int) ([]int, []*big.Rat, int) {
	var names []int
	purses := make([]*big.Rat, len(ballots))
	for i := range purses {
		purses[i] = whole(k)
	}
	product := 1
	for {
		shares := map[int]*big.Rat{}
		for _, name := range othersOf(c, names) {
			payers := ratsAt(purses, approversByWords(ballots, name))
			if share := leastShareByWords(payers, whole(len(ballots))); share != nil {
				shares[name] = share
			}
		}
		next, share, ok := leastNameByWords(shares)
		if !ok {
			return names, purses, product
		}
		names = append(names, next)
		payers := 0
		for _, i := range approversByWords(ballots, next) {
			if purses[i].Cmp(share) < 0 {
				purses[i] = new(big.Rat)
				continue
			}
			payers++
			purses[i] = new(big.Rat).Sub(purses[i], share)
		}
		product *= payers
	}
}

// areFractions reports whether numbers over another one are these fractions.
func areFractions(numbers []int, below int, fractions []*big.Rat) bool {
	if len(numbers) != len(fractions) {
		return false
	}
	for i, number := range numbers {
		if !isFraction(number, below, fractions[i]) {
			return false
		}
	}
	return true
}

// servedByWords reports whether there is no name that is not in w, and that is approved of by ballots whose number, times
// k, is at least all, of which each one approves of no name of w.
func servedByWords(c int, ballots []int, k int, w int) bool {
	for _, name := range othersOf(c, namesIn(w)) {
		for _, group := range groupsByWords(len(ballots)) {
			isWanting := len(group)*k >= len(ballots)
			for _, i := range group {
				names := namesIn(ballots[i])
				isWanting = isWanting && slices.Contains(names, name) && len(bothIn(names, namesIn(w))) == 0
			}
			if isWanting {
				return false
			}
		}
	}
	return true
}

// swapsByWords returns all pairs of a name of w and one in its place with which the score is greater, in their order.
func swapsByWords(c int, ballots []int, w int) [][2]int {
	var pairs [][2]int
	now := scoreByWords("harmonic", ballots, w)
	for _, from := range namesIn(w) {
		for _, to := range othersOf(c, namesIn(w)) {
			var swapped []int
			for _, name := range namesIn(w) {
				if name != from {
					swapped = append(swapped, name)
				}
			}
			if scoreByWords("harmonic", ballots, groupNumber(append(swapped, to))).Cmp(now) > 0 {
				pairs = append(pairs, [2]int{from, to})
			}
		}
	}
	return pairs
}

// committeeByWords returns the committee of names that there are.
func committeeByWords(list []int) int {
	var names []int
	for name := range maxNames {
		if slices.Contains(list, name) {
			names = append(names, name)
		}
	}
	return groupNumber(names)
}

// The lines that are answered, by wrong among others. A text may have newlines in it, and $ stands for its end alone.
var (
	lineOfSpace = regexp.MustCompile(`^(critical|median|blocked) ([^ ]*)$`)
	lineOfVotes = regexp.MustCompile(`^(majority|medians|slater|ranked) ([^ ]*) ([^ ]*)$`)
)

// answerByWords returns the answer to a line.
func answerByWords(line string) string {
	if parts := lineOfSpace.FindStringSubmatch(line); parts != nil {
		s, ok := impl.ParseSpace(parts[2])
		if !ok {
			return "wrong"
		}
		return spaceAnswerByWords(parts[1], s)
	}
	if parts := lineOfVotes.FindStringSubmatch(line); parts != nil {
		s, ok := impl.ParseSpace(parts[2])
		votes, areVotes := votesByWords(s, parts[3])
		if !ok || !areVotes {
			return "wrong"
		}
		return votesAnswerByWords(parts[1], s, votes)
	}
	return "what"
}

// votesByWords returns the votes in the space with this text.
func votesByWords(s impl.Space, text string) ([]int, bool) {
	var votes []int
	for _, part := range strings.Split(text, ",") {
		i := slices.IndexFunc(s.All, func(x int) bool { return strconv.Itoa(x) == part })
		if i < 0 || len(votes) == maxVotes {
			return nil, false
		}
		votes = append(votes, s.All[i])
	}
	return votes, true
}

// spaceAnswerByWords returns what is answered about a space.
func spaceAnswerByWords(word string, s impl.Space) string {
	holds := false
	switch word {
	case "critical":
		return strconv.Itoa(len(criticalByWords(s)))
	case "median":
		holds = isJoined(s, most())
	case "blocked":
		holds = isBlockedByWords(s)
	}
	return map[bool]string{true: "yes", false: "no"}[holds]
}

// isBlockedByWords reports whether each answer leads to each other one.
func isBlockedByWords(s impl.Space) bool {
	leads := leadsByWords(s)
	for from, led := range leads {
		for to := range leads {
			if from != to && answer(led, to) == 0 {
				return false
			}
		}
	}
	return true
}

// votesAnswerByWords returns what is answered about votes.
func votesAnswerByWords(word string, s impl.Space, votes []int) string {
	switch word {
	case "majority":
		return strconv.Itoa(majorityByWords(s, votes))
	case "medians":
		return numsText(medianByWords(s, votes))
	case "slater":
		return numsText(slaterByWords(s, votes))
	}
	return strconv.Itoa(rankedByWords(s, votes))
}
