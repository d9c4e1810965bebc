package tests

import (
	"slices"

	"loop.example/jointjudgments/impl"
)

// The functions of this file, too, follow the words of the document. A group is a list of its voters, ascending.

// groupsByWords returns all groups of so many voters.
func groupsByWords(voters int) [][]int {
	groups := [][]int{nil}
	for voter := range voters {
		for _, group := range groups {
			groups = append(groups, append(slices.Clone(group), voter))
		}
	}
	return groups
}

// othersOf returns the group of all voters that are not in the group.
func othersOf(voters int, group []int) []int {
	var others []int
	for voter := range voters {
		if !slices.Contains(group, voter) {
			others = append(others, voter)
		}
	}
	return others
}

// groupNumber returns the sum of 2 to each voter of a group.
func groupNumber(group []int) int {
	sum := 0
	for _, voter := range group {
		power := 1
		for range voter {
			power *= 2
		}
		sum += power
	}
	return sum
}

// doesWin reports whether a group wins with these Wins of an issue.
func doesWin(wins int, group []int) bool {
	return answer(wins, groupNumber(group)) == 1
}

// winsByWords returns the sum of 2 to each group that is to win.
func winsByWords(voters int, isToWin func(group []int) bool) int {
	wins := 0
	for _, group := range groupsByWords(voters) {
		if isToWin(group) {
			wins += 1 << groupNumber(group)
		}
	}
	return wins
}

// applyByWords returns the number with 1 where the voters with 1 win.
func applyByWords(s impl.Space, r impl.Rule, votes []int) int {
	answers := make([]int, s.Issues)
	for j := range answers {
		var group []int
		for voter, x := range votes {
			if answer(x, j) == 1 {
				group = append(group, voter)
			}
		}
		if doesWin(r.Wins[j], group) {
			answers[j] = 1
		}
	}
	return numberOf(answers)
}

// isMonotoneWins reports whether each group that has all voters of one that wins wins, too.
func isMonotoneWins(voters int, wins int) bool {
	for _, group := range groupsByWords(voters) {
		for _, greater := range groupsByWords(voters) {
			if isAmong(group, greater) && doesWin(wins, group) && !doesWin(wins, greater) {
				return false
			}
		}
	}
	return true
}

// isUnanimousWins reports whether the group of all voters wins, and that of none does not.
func isUnanimousWins(voters int, wins int) bool {
	return doesWin(wins, othersOf(voters, nil)) && !doesWin(wins, nil)
}

// isNeutralWins reports whether a group wins exactly if that of all other voters does not.
func isNeutralWins(voters int, wins int) bool {
	for _, group := range groupsByWords(voters) {
		if doesWin(wins, group) == doesWin(wins, othersOf(voters, group)) {
			return false
		}
	}
	return true
}

// holdsByWords reports whether something holds for each issue of a rule.
func holdsByWords(r impl.Rule, holds func(voters int, wins int) bool) bool {
	for _, wins := range r.Wins {
		if !holds(r.Voters, wins) {
			return false
		}
	}
	return true
}

// monotoneWins returns all Wins of an issue with which greater groups win, too.
func monotoneWins(voters int) []int {
	var list []int
	for _, wins := range allWins(voters) {
		if isMonotoneWins(voters, wins) {
			list = append(list, wins)
		}
	}
	return list
}

// dictatorByWords returns the rule by which just the groups with the voter win.
func dictatorByWords(voters int, voter int, issues int) impl.Rule {
	wins := winsByWords(voters, func(group []int) bool { return slices.Contains(group, voter) })
	return impl.Rule{Voters: voters, Wins: slices.Repeat([]int{wins}, issues)}
}

// oppositeByWords returns the rule by which a group wins if that of all other voters does not.
func oppositeByWords(r impl.Rule) impl.Rule {
	opposite := impl.Rule{Voters: r.Voters}
	for _, wins := range r.Wins {
		others := func(group []int) bool { return !doesWin(wins, othersOf(r.Voters, group)) }
		opposite.Wins = append(opposite.Wins, winsByWords(r.Voters, others))
	}
	return opposite
}

// dictatorOfByWords returns the voter with just whom groups win, -1 if there is none.
func dictatorOfByWords(r impl.Rule) int {
	for voter := range r.Voters {
		if sameRule(r, dictatorByWords(r.Voters, voter, len(r.Wins))) {
			return voter
		}
	}
	return -1
}

// safeByWords reports whether all votes lead to judgments of the space.
func safeByWords(s impl.Space, r impl.Rule) bool {
	for k := range listsOf(s, r.Voters) {
		if !slices.Contains(s.All, applyByWords(s, r, votesOf(s, r.Voters, k))) {
			return false
		}
	}
	return true
}

// winnersFor returns the groups that win for the answer to an issue.
func winnersFor(voters int, wins int, answer int) [][]int {
	var winners [][]int
	for _, group := range groupsByWords(voters) {
		if answer == 1 && doesWin(wins, group) || answer == 0 && !doesWin(wins, othersOf(voters, group)) {
			winners = append(winners, group)
		}
	}
	return winners
}

// meetByWords reports whether for all groups, one for each answer of a part to the issue j and those behind it, which win
// for it, one of the voters is in all of them.
func meetByWords(r impl.Rule, p impl.Part, j int, voters []int) bool {
	if j == len(r.Wins) {
		return len(voters) > 0
	}
	if answer(p.Care, j) == 0 {
		return meetByWords(r, p, j+1, voters)
	}
	for _, group := range winnersFor(r.Voters, r.Wins[j], answer(p.Bits, j)) {
		var left []int
		for _, voter := range voters {
			if slices.Contains(group, voter) {
				left = append(left, voter)
			}
		}
		if !meetByWords(r, p, j+1, left) {
			return false
		}
	}
	return true
}

// doMeetByWords reports whether this holds of all critical parts.
func doMeetByWords(parts []impl.Part, r impl.Rule) bool {
	for _, p := range parts {
		if !meetByWords(r, p, 0, othersOf(r.Voters, nil)) {
			return false
		}
	}
	return true
}

// fairRulesByWords returns all monotone and unanimous rules, that with the lesser number at the first issue where two
// differ first.
func fairRulesByWords(voters int, issues int) []impl.Rule {
	rules := []impl.Rule{{Voters: voters}}
	for range issues {
		var longer []impl.Rule
		for _, r := range rules {
			for _, wins := range allWins(voters) {
				if isMonotoneWins(voters, wins) && isUnanimousWins(voters, wins) {
					longer = append(longer, impl.Rule{Voters: voters, Wins: append(slices.Clone(r.Wins), wins)})
				}
			}
		}
		rules = longer
	}
	return rules
}

// safeRulesByWords returns those of the rules that are safe.
func safeRulesByWords(s impl.Space, rules []impl.Rule) []impl.Rule {
	var list []impl.Rule
	for _, r := range rules {
		if safeByWords(s, r) {
			list = append(list, r)
		}
	}
	return list
}

// quotaRuleByWords returns the rule by which a group wins for an issue with as many voters as its quota.
func quotaRuleByWords(n int, quotas []int) impl.Rule {
	r := impl.Rule{Voters: n}
	for _, q := range quotas {
		r.Wins = append(r.Wins, winsByWords(n, func(group []int) bool { return len(group) >= q }))
	}
	return r
}
