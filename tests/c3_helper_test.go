package tests

import (
	"math"
	"slices"
	"testing"

	"loop.example/jointjudgments/impl"
)

// maxGroup is written out, so that a changed constant is noticed.
const maxGroup = 3

// winsCount returns how many sums of 2 to each group that wins there are: 4, 16 and 256 for one to three voters.
func winsCount(voters int) int {
	return 1 << (1 << voters)
}

// allWins returns all sums of 2 to each group that wins.
func allWins(voters int) []int {
	list := make([]int, winsCount(voters))
	for wins := range list {
		list[wins] = wins
	}
	return list
}

// rulesOf returns rules whose Wins are of the list, at most about most, those that follow each other in the order of Wins
// being as far from each other as the others.
func rulesOf(voters int, issues int, list []int, most int) []impl.Rule {
	many := 1
	for range issues {
		many *= len(list)
	}
	step := (many + most - 1) / most
	for haveCommonFactor(step, len(list)) {
		step++
	}
	var rules []impl.Rule
	for k := 0; k < many; k += step {
		wins := make([]int, issues)
		for j, rest := issues-1, k; j >= 0; j-- {
			wins[j] = list[rest%len(list)]
			rest /= len(list)
		}
		rules = append(rules, impl.Rule{Voters: voters, Wins: wins})
	}
	return rules
}

// monotoneRules returns at most about most rules of each number of voters for which greater groups of those that win win.
func monotoneRules(issues int, most int) []impl.Rule {
	var rules []impl.Rule
	for voters := 1; voters <= maxGroup; voters++ {
		rules = append(rules, rulesOf(voters, issues, monotoneWins(voters), most)...)
	}
	return rules
}

// edgeRules returns the rules by which nobody wins, all groups do, that of all voters alone does, all but that of none
// do, and each voter dictates.
func edgeRules(issues int) []impl.Rule {
	var rules []impl.Rule
	for voters := 1; voters <= maxGroup; voters++ {
		last := winsCount(voters) - 1
		for _, wins := range []int{0, last, last/2 + 1, last - 1, 1, last - 2} {
			rules = append(rules, impl.Rule{Voters: voters, Wins: slices.Repeat([]int{wins}, issues)})
		}
		for voter := range voters {
			rules = append(rules, dictatorByWords(voters, voter, issues))
		}
	}
	return rules
}

// someRules returns the edge rules, and of each number of voters at most about most of all and of the monotone ones.
func someRules(issues int, most int) []impl.Rule {
	rules := append(edgeRules(issues), monotoneRules(issues, most)...)
	for voters := 1; voters <= maxGroup; voters++ {
		rules = append(rules, rulesOf(voters, issues, allWins(voters), most)...)
	}
	return rules
}

// eachRule calls visit with all rules of one voter, and others, in all spaces of up to three issues and some of those of four.
func eachRule(visit func(s impl.Space, r impl.Rule)) {
	rules := make([][]impl.Rule, maxIssues+1)
	for issues, most := range []int{1: 256, 2: 1 << 10, 3: 100, 4: 50} {
		if issues > 0 {
			rules[issues] = someRules(issues, most)
		}
	}
	someSpaces(1511, func(s impl.Space) {
		for _, r := range rules[s.Issues] {
			visit(s, r)
		}
	})
}

// eachVotesOf calls visit with at most about most lists of as many votes as voters.
func eachVotesOf(s impl.Space, voters int, most int, visit func(votes []int)) {
	many := listsOf(s, voters)
	step := (many + most - 1) / most
	for haveCommonFactor(step, len(s.All)) {
		step++
	}
	for k := many - 1; k >= 0; k -= step {
		visit(votesOf(s, voters, k))
	}
}

// sameRule reports whether two rules are the same.
func sameRule(a impl.Rule, b impl.Rule) bool {
	return a.Voters == b.Voters && slices.Equal(a.Wins, b.Wins)
}

// sameRules reports whether two lists of rules are the same.
func sameRules(a []impl.Rule, b []impl.Rule) bool {
	return slices.EqualFunc(a, b, sameRule)
}

// hasRule reports whether a rule is in the list.
func hasRule(list []impl.Rule, r impl.Rule) bool {
	return slices.ContainsFunc(list, func(other impl.Rule) bool { return sameRule(other, r) })
}

// invalidRules returns rules that are not valid for spaces of so many issues, one more than the limits among them.
func invalidRules(issues int) []impl.Rule {
	var rules []impl.Rule
	for _, voters := range []int{0, -1, maxGroup + 1, 5, 6, 63, 64, math.MaxInt, math.MinInt} {
		for _, wins := range []int{0, 1, 2, 8} {
			rules = append(rules, impl.Rule{Voters: voters, Wins: slices.Repeat([]int{wins}, issues)})
		}
		rules = append(rules, impl.Rule{Voters: voters})
	}
	for voters := 1; voters <= maxGroup; voters++ {
		all := winsCount(voters)
		for _, wins := range []int{0, all / 2, all - 1} {
			for _, n := range []int{0, issues - 1, issues + 1, 100} {
				rules = append(rules, impl.Rule{Voters: voters, Wins: slices.Repeat([]int{wins}, n)})
			}
			for j := range issues {
				for _, other := range []int{-1, -2, all, all + wins, math.MaxInt, math.MinInt} {
					r := impl.Rule{Voters: voters, Wins: slices.Repeat([]int{wins}, issues)}
					r.Wins[j] = other
					rules = append(rules, r)
				}
			}
		}
	}
	return rules
}

// wantNoRule checks that there is the zero value and false.
func wantNoRule(t *testing.T, name string, r impl.Rule, ok bool) {
	t.Helper()
	if ok || r.Voters != 0 || len(r.Wins) != 0 {
		t.Errorf("%s = %v, %v, want none", name, r, ok)
	}
}
