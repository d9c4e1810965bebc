package tests

import (
	"math"
	"slices"
	"testing"

	"loop.example/jointjudgments/impl"
)

// checkNoRule checks the fixed result of each function for what is no rule for the space.
func checkNoRule(t *testing.T, s impl.Space, r impl.Rule) {
	t.Helper()
	if impl.ValidRule(s, r) || impl.IsMonotone(s, r) || impl.IsUnanimous(s, r) || impl.IsNeutral(s, r) || impl.IsSafe(s, r) || impl.DoMeet(s, r) {
		t.Errorf("a report of %v in %v is true", r, s)
	}
	wantNumber(t, "DictatorOf", impl.DictatorOf(s, r), -1)
	for n := range maxVotes + 1 {
		votes := []int{0, 0, 0, 0, 0}
		if len(s.All) > 0 {
			votes = slices.Repeat(s.All[:1], maxVotes)
		}
		wantNumber(t, "ApplyRule", impl.ApplyRule(s, r, votes[:n]), -1)
	}
}

func TestRulesThatAreNotValid(t *testing.T) {
	for _, text := range []string{"1:0", "1:1", "1:0,1", "2:0,1,2,3", "2:1,2", andText, cycleText, allFour} {
		s := space(t, text)
		for _, r := range invalidRules(s.Issues) {
			checkNoRule(t, s, r)
		}
	}
	for _, s := range invalidSpaces() {
		for issues := range maxIssues + 2 {
			for _, r := range edgeRules(issues) {
				checkNoRule(t, s, r)
			}
		}
		checkNoRule(t, s, impl.Rule{})
	}
}

// TestRulesAtTheLimits checks that the greatest rule is valid, and one more is not.
func TestRulesAtTheLimits(t *testing.T) {
	s := space(t, allFour)
	greatest := impl.Rule{Voters: maxGroup, Wins: []int{255, 255, 255, 255}}
	if !impl.ValidRule(s, greatest) || !impl.IsMonotone(s, greatest) || impl.IsUnanimous(s, greatest) || !impl.IsSafe(s, greatest) || !impl.DoMeet(s, greatest) {
		t.Error("the greatest rule is not valid")
	}
	wantNumber(t, "ApplyRule of the greatest rule", impl.ApplyRule(s, greatest, []int{0, 0, 0}), 15)
	checkNoRule(t, s, impl.Rule{Voters: maxGroup, Wins: []int{255, 255, 255, 256}})
	checkNoRule(t, s, impl.Rule{Voters: maxGroup + 1, Wins: []int{255, 255, 255, 255}})
	checkNoRule(t, s, impl.Rule{Voters: maxGroup, Wins: []int{255, 255, 255, 255, 255}})
	checkNoRule(t, s, impl.Rule{Voters: maxGroup, Wins: []int{255, 255, 255}})
	least := space(t, "1:1")
	if r := (impl.Rule{Voters: 1, Wins: []int{0}}); !impl.ValidRule(least, r) || impl.IsSafe(least, r) || impl.ApplyRule(least, r, []int{1}) != 0 {
		t.Error("the least rule is not valid")
	}
	checkNoRule(t, least, impl.Rule{Voters: 1, Wins: []int{-1}})
	checkNoRule(t, least, impl.Rule{Voters: 0, Wins: []int{0}})
}

func TestVotesOfRulesThatAreNotValid(t *testing.T) {
	for _, text := range []string{"1:0", "1:0,1", "2:0,3", andText, cycleText, allFour} {
		s := space(t, text)
		for _, r := range edgeRules(s.Issues) {
			for _, votes := range invalidVotes(s) {
				wantNumber(t, "ApplyRule of no votes", impl.ApplyRule(s, r, votes), -1)
			}
			for n := range maxVotes + 2 {
				got := impl.ApplyRule(s, r, slices.Repeat(s.All[:1], n))
				if (got >= 0) != (n == r.Voters) || got < -1 {
					t.Errorf("ApplyRule(%v, %v) of %d votes = %d", s, r, n, got)
				}
			}
		}
	}
}

func TestNumbersOfVotersThatAreNotValid(t *testing.T) {
	for _, text := range []string{"1:0", "2:0,3", andText, allFour} {
		s := space(t, text)
		for _, n := range append(farNumbers(), 0, maxGroup, maxGroup+1) {
			if got := impl.SafeRules(s, n); len(got) != 0 {
				t.Errorf("SafeRules(%v, %d) = %v", s, n, got)
			}
			if n == maxGroup {
				continue
			}
			for _, q := range []int{0, 1, n} {
				r, ok := impl.RuleOfQuotas(s, n, slices.Repeat([]int{q}, s.Issues))
				wantNoRule(t, "RuleOfQuotas", r, ok)
			}
		}
		for n := 1; n <= maxGroup; n++ {
			for _, q := range []int{1, n} {
				if r, ok := impl.RuleOfQuotas(s, n, slices.Repeat([]int{q}, s.Issues)); !ok || !impl.ValidRule(s, r) {
					t.Errorf("RuleOfQuotas(%v, %d) of %d each = %v, %v", s, n, q, r, ok)
				}
			}
		}
	}
	for _, s := range invalidSpaces() {
		for n := range maxGroup + 1 {
			if got := impl.SafeRules(s, n); len(got) != 0 {
				t.Errorf("SafeRules(%v, %d) = %v", s, n, got)
			}
			for issues := range maxIssues + 2 {
				r, ok := impl.RuleOfQuotas(s, n, slices.Repeat([]int{1}, issues))
				wantNoRule(t, "RuleOfQuotas", r, ok)
			}
		}
	}
}

func TestQuotasOfRulesThatAreNotValid(t *testing.T) {
	s := space(t, andText)
	for n := 1; n <= maxGroup; n++ {
		lists := [][]int{nil, {}, {1}, {1, 1}, {1, 1, 1, 1}, make([]int, 100)}
		for j := range s.Issues {
			for _, q := range []int{0, -1, n + 1, math.MaxInt, math.MinInt} {
				quotas := []int{n, n, n}
				quotas[j] = q
				lists = append(lists, quotas)
			}
		}
		for _, quotas := range lists {
			r, ok := impl.RuleOfQuotas(s, n, quotas)
			wantNoRule(t, "RuleOfQuotas of no quotas", r, ok)
		}
	}
}

// TestMemoryOfRuleArguments checks that no function changes its arguments.
func TestMemoryOfRuleArguments(t *testing.T) {
	all := space(t, "3:0,1,2,3,4,5,6,7")
	for _, wins := range [][]int{{232, 128, 254}, {0, 0, 0}, {170, 170, 170}, {256, 0, 0}} {
		judgments, memory := filled(all.All)
		winners, winsMemory := filled(wins)
		votes, votesMemory := filled([]int{3, 1, 2})
		before := []([]int){slices.Clone(memory), slices.Clone(winsMemory), slices.Clone(votesMemory)}
		s, r := impl.Space{Issues: 3, All: judgments}, impl.Rule{Voters: 3, Wins: winners}
		impl.ValidRule(s, r)
		impl.ApplyRule(s, r, votes)
		impl.IsMonotone(s, r)
		impl.IsUnanimous(s, r)
		impl.IsNeutral(s, r)
		impl.DictatorOf(s, r)
		impl.IsSafe(s, r)
		impl.DoMeet(s, r)
		spoilRules(impl.SafeRules(s, 2))
		made, _ := impl.RuleOfQuotas(s, 3, votes)
		spoil(made.Wins)
		for i, list := range []([]int){memory, winsMemory, votesMemory} {
			if !slices.Equal(list, before[i]) {
				t.Errorf("an argument of a rule %v is changed: %v", wins, list)
			}
		}
	}
}

// spoilRules writes over all rules of a list.
func spoilRules(list []impl.Rule) {
	for i := range list {
		spoil(list[i].Wins)
		list[i].Voters = -77
	}
}

// TestMemoryOfRules checks that rules that are given out share no memory, and are not kept.
func TestMemoryOfRules(t *testing.T) {
	for _, text := range []string{"1:0,1", "2:0,1,3", andText, cycleText, "2:0,1,2,3", allFour} {
		s := space(t, text)
		want := impl.SafeRules(s, 2)
		got := impl.SafeRules(s, 2)
		for i := range got {
			spoil(got[i].Wins)
			if !sameRules(got[i+1:], want[i+1:]) {
				t.Errorf("SafeRules(%s) gives out the same memory twice", text)
			}
		}
		spoilRules(got)
		if !sameRules(impl.SafeRules(s, 2), want) {
			t.Errorf("SafeRules(%s) once more = %v", text, impl.SafeRules(s, 2))
		}
	}
	s := space(t, andText)
	for range 2 {
		r, ok := impl.RuleOfQuotas(s, 3, []int{1, 2, 3})
		if !ok || !slices.Equal(r.Wins, []int{254, 232, 128}) {
			t.Errorf("RuleOfQuotas = %v, %v", r, ok)
		}
		spoil(r.Wins)
	}
}
