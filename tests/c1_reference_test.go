package tests

import (
	"slices"

	"loop.example/jointjudgments/impl"
)

// The functions of this file follow the words of the document answer by answer, as slowly as these do.

// answer returns the answer of a judgment to the issue j.
func answer(x int, j int) int {
	for range j {
		x /= 2
	}
	return x % 2
}

// numberOf returns the judgment with these answers.
func numberOf(answers []int) int {
	x := 0
	for j := len(answers) - 1; j >= 0; j-- {
		x = 2*x + answers[j]
	}
	return x
}

// gives reports whether a judgment has all answers of a part.
func gives(issues int, x int, p impl.Part) bool {
	for j := range issues {
		if answer(p.Care, j) == 1 && answer(x, j) != answer(p.Bits, j) {
			return false
		}
	}
	return true
}

// openByWords reports whether a judgment of the space has all answers of the part.
func openByWords(s impl.Space, p impl.Part) bool {
	for _, x := range s.All {
		if gives(s.Issues, x, p) {
			return true
		}
	}
	return false
}

// sizeOf returns how many issues a part answers.
func sizeOf(p impl.Part) int {
	n := 0
	for j := range maxIssues {
		n += answer(p.Care, j)
	}
	return n
}

// withoutIssue returns the part without its answer to the issue j.
func withoutIssue(p impl.Part, j int) impl.Part {
	if answer(p.Care, j) == 1 {
		p.Bits -= answer(p.Bits, j) << j
		p.Care -= 1 << j
	}
	return p
}

// criticalByWords returns the critical parts of a space in their order.
func criticalByWords(s impl.Space) []impl.Part {
	var list []impl.Part
	eachPart(s.Issues, func(p impl.Part) {
		if openByWords(s, p) {
			return
		}
		for j := range s.Issues {
			if answer(p.Care, j) == 1 && !openByWords(s, withoutIssue(p, j)) {
				return
			}
		}
		list = append(list, p)
	})
	slices.SortFunc(list, func(p impl.Part, q impl.Part) int {
		if sizeOf(p) != sizeOf(q) {
			return sizeOf(p) - sizeOf(q)
		}
		if p.Care != q.Care {
			return p.Care - q.Care
		}
		return p.Bits - q.Bits
	})
	return list
}

// joinedByWords returns for three judgments the one whose answer to each issue is 1 if so many of them say so.
func joinedByWords(issues int, counts []int, x int, y int, z int) int {
	answers := make([]int, issues)
	for j := range issues {
		if slices.Contains(counts, answer(x, j)+answer(y, j)+answer(z, j)) {
			answers[j] = 1
		}
	}
	return numberOf(answers)
}

// most and odd are the numbers of answers 1 of three judgments that make an answer 1.
func most() []int { return []int{2, 3} }

func odd() []int { return []int{1, 3} }

// isJoined reports whether each three judgments make one of the space.
func isJoined(s impl.Space, counts []int) bool {
	for _, x := range s.All {
		for _, y := range s.All {
			for _, z := range s.All {
				if !slices.Contains(s.All, joinedByWords(s.Issues, counts, x, y, z)) {
					return false
				}
			}
		}
	}
	return true
}

// joinedMasks returns the masks of all spaces of so many issues of which each three judgments make one of the space.
func joinedMasks(issues int, counts []int) []int {
	join := map[[3]int]int{}
	for x := range 1 << issues {
		for y := range x {
			for z := range y {
				join[[3]int{x, y, z}] = joinedByWords(issues, counts, x, y, z)
			}
		}
	}
	var masks []int
	for mask := 1; mask < 1<<(1<<issues); mask++ {
		if isJoinedMask(mask, issues, join) {
			masks = append(masks, mask)
		}
	}
	return masks
}

func isJoinedMask(mask int, issues int, join map[[3]int]int) bool {
	for x := range 1 << issues {
		if mask>>x&1 == 0 {
			continue
		}
		for y := range x {
			if mask>>y&1 == 0 {
				continue
			}
			for z := range y {
				if mask>>z&1 == 1 && mask>>join[[3]int{x, y, z}]&1 == 0 {
					return false
				}
			}
		}
	}
	return true
}

// leastMask returns the first of the masks with the fewest bits that has all of the mask, and how many have as few.
func leastMask(masks []int, mask int) (int, int) {
	best, least, times := 0, 1<<30, 0
	for _, m := range masks {
		if m&mask != mask {
			continue
		}
		switch n := onesOf(m); {
		case n < least:
			best, least, times = m, n, 1
		case n == least:
			times++
		}
	}
	return best, times
}

// onesOf returns how many binary digits of a number are 1.
func onesOf(m int) int {
	n := 0
	for ; m > 0; m /= 2 {
		n += m % 2
	}
	return n
}

// gapByWords returns how many answers of two judgments differ.
func gapByWords(x int, y int) int {
	n := 0
	for j := range maxIssues {
		if answer(x, j) != answer(y, j) {
			n++
		}
	}
	return n
}

// hullByWords returns the judgments that give each answer that all of the list give.
func hullByWords(s impl.Space, list []int) []int {
	var out []int
	for _, x := range s.All {
		ok := true
		for j := range s.Issues {
			all := [2]bool{true, true}
			for _, y := range list {
				all[1-answer(y, j)] = false
			}
			if all[0] && answer(x, j) != 0 || all[1] && answer(x, j) != 1 {
				ok = false
			}
		}
		if ok {
			out = append(out, x)
		}
	}
	return out
}

// nearestByWords returns the judgments with the least gap.
func nearestByWords(s impl.Space, x int) []int {
	for gap := 0; gap <= maxIssues; gap++ {
		var out []int
		for _, y := range s.All {
			if gapByWords(x, y) == gap {
				out = append(out, y)
			}
		}
		if len(out) > 0 {
			return out
		}
	}
	return nil
}

// place is an answer to an issue.
type place struct{ issue, answer int }

// leadsByWords returns the leads of a space, found by walking from each answer.
func leadsByWords(s impl.Space) []int {
	parts := criticalByWords(s)
	var out []int
	for j := range s.Issues {
		for a := range 2 {
			seen := map[place]bool{}
			walkLeads(s.Issues, parts, place{j, a}, seen)
			sum := 0
			for to := range seen {
				sum += 1 << (2*to.issue + to.answer)
			}
			out = append(out, sum)
		}
	}
	return out
}

func walkLeads(issues int, parts []impl.Part, from place, seen map[place]bool) {
	for _, p := range parts {
		if answer(p.Care, from.issue) == 0 || answer(p.Bits, from.issue) != from.answer {
			continue
		}
		for j := range issues {
			if j == from.issue || answer(p.Care, j) == 0 {
				continue
			}
			to := place{j, 1 - answer(p.Bits, j)}
			if !seen[to] {
				seen[to] = true
				walkLeads(issues, parts, to, seen)
			}
		}
	}
}

// dropByWords returns the judgments without the issue j, ascending and once each.
func dropByWords(s impl.Space, j int) []int {
	has := map[int]bool{}
	for _, x := range s.All {
		var answers []int
		for i := range s.Issues {
			if i != j {
				answers = append(answers, answer(x, i))
			}
		}
		has[numberOf(answers)] = true
	}
	return ascending(has)
}

// flipByWords returns the judgments with the other answer to the issue j, ascending.
func flipByWords(s impl.Space, j int) []int {
	has := map[int]bool{}
	for _, x := range s.All {
		var answers []int
		for i := range s.Issues {
			if i == j {
				answers = append(answers, 1-answer(x, i))
			} else {
				answers = append(answers, answer(x, i))
			}
		}
		has[numberOf(answers)] = true
	}
	return ascending(has)
}

// crossByWords returns the judgments that answer the first issues as one of a and the others as one of b.
func crossByWords(a impl.Space, b impl.Space) []int {
	has := map[int]bool{}
	for _, x := range a.All {
		for _, y := range b.All {
			var answers []int
			for j := range a.Issues {
				answers = append(answers, answer(x, j))
			}
			for j := range b.Issues {
				answers = append(answers, answer(y, j))
			}
			has[numberOf(answers)] = true
		}
	}
	return ascending(has)
}

func ascending(has map[int]bool) []int {
	var out []int
	for x := range has {
		out = append(out, x)
	}
	slices.Sort(out)
	return out
}
