package tests

import (
	"slices"
	"testing"

	"loop.example/jointjudgments/impl"
)

func TestLimitOfGroups(t *testing.T) {
	wantNumber(t, "MaxGroup", impl.MaxGroup, maxGroup)
}

func TestValidRule(t *testing.T) {
	s := space(t, "2:0,1,3")
	for _, r := range []impl.Rule{
		{Voters: 1, Wins: []int{0, 3}},
		{Voters: 2, Wins: []int{15, 0}},
		{Voters: 3, Wins: []int{255, 255}},
		{Voters: 3, Wins: []int{0, 0}},
	} {
		if !impl.ValidRule(s, r) {
			t.Errorf("ValidRule(%v) is false", r)
		}
	}
	for _, r := range []impl.Rule{
		{Voters: 1, Wins: []int{0, 4}},
		{Voters: 2, Wins: []int{16, 0}},
		{Voters: 3, Wins: []int{255, 256}},
		{Voters: 3, Wins: []int{-1, 0}},
		{Voters: 0, Wins: []int{0, 0}},
		{Voters: 4, Wins: []int{0, 0}},
		{Voters: 3, Wins: []int{0}},
		{Voters: 3, Wins: []int{0, 0, 0}},
		{Voters: 3},
		{},
	} {
		if impl.ValidRule(s, r) {
			t.Errorf("ValidRule(%v) is true", r)
		}
	}
}

func TestApplyRuleByWords(t *testing.T) {
	t.Parallel()
	eachRule(func(s impl.Space, r impl.Rule) {
		if !impl.ValidRule(s, r) {
			t.Fatalf("ValidRule(%v, %v) is false", s, r)
		}
		eachVotesOf(s, r.Voters, 20, func(votes []int) {
			if got, want := impl.ApplyRule(s, r, votes), applyByWords(s, r, votes); got != want {
				t.Fatalf("ApplyRule(%v, %v, %v) = %d, want %d", s, r, votes, got, want)
			}
		})
	})
}

func TestReportsOfRulesByWords(t *testing.T) {
	t.Parallel()
	eachRule(func(s impl.Space, r impl.Rule) {
		for _, x := range []struct {
			name   string
			report func(s impl.Space, r impl.Rule) bool
			want   bool
		}{
			{"IsMonotone", impl.IsMonotone, holdsByWords(r, isMonotoneWins)},
			{"IsUnanimous", impl.IsUnanimous, holdsByWords(r, isUnanimousWins)},
			{"IsNeutral", impl.IsNeutral, holdsByWords(r, isNeutralWins)},
			{"IsSafe", impl.IsSafe, safeByWords(s, r)},
		} {
			if x.report(s, r) != x.want {
				t.Fatalf("%s(%v, %v) is not %v", x.name, s, r, x.want)
			}
		}
		if got, want := impl.DictatorOf(s, r), dictatorOfByWords(r); got != want {
			t.Fatalf("DictatorOf(%v, %v) = %d, want %d", s, r, got, want)
		}
	})
}

// TestDoMeetByWords also checks that where groups meet all votes lead to judgments, by rules that are not monotone, too.
func TestDoMeetByWords(t *testing.T) {
	t.Parallel()
	rules := [][]impl.Rule{1: someRules(1, 256), 2: someRules(2, 1<<12), 3: someRules(3, 400), 4: someRules(4, 200)}
	someSpaces(1511, func(s impl.Space) {
		parts := criticalByWords(s)
		for _, r := range rules[s.Issues] {
			got := impl.DoMeet(s, r)
			if got != doMeetByWords(parts, r) {
				t.Fatalf("DoMeet(%v, %v) = %v", s, r, got)
			}
			if got && !impl.IsSafe(s, r) {
				t.Fatalf("DoMeet(%v, %v) is true, IsSafe is false", s, r)
			}
		}
	})
}

func TestSafeRulesByWords(t *testing.T) {
	t.Parallel()
	var fair [3][maxIssues + 1][]impl.Rule
	for voters := 1; voters <= 2; voters++ {
		for issues := 1; issues <= maxIssues; issues++ {
			fair[voters][issues] = fairRulesByWords(voters, issues)
		}
	}
	someSpaces(1511, func(s impl.Space) {
		for voters := 1; voters <= 2; voters++ {
			got, want := impl.SafeRules(s, voters), safeRulesByWords(s, fair[voters][s.Issues])
			if !sameRules(got, want) {
				t.Fatalf("SafeRules(%v, %d) = %v, want %v", s, voters, got, want)
			}
		}
	})
}

func TestRuleOfQuotasByWords(t *testing.T) {
	t.Parallel()
	someSpaces(8009, func(s impl.Space) {
		for n := 1; n <= maxGroup; n++ {
			eachQuotas(s.Issues, n, func(quotas []int) {
				if got, ok := impl.RuleOfQuotas(s, n, quotas); !ok || !sameRule(got, quotaRuleByWords(n, quotas)) {
					t.Fatalf("RuleOfQuotas(%v, %d, %v) = %v, %v", s, n, quotas, got, ok)
				}
			})
		}
	})
}

// TestOrdinaryRules has rules of two voters for two premises and what follows from them.
func TestOrdinaryRules(t *testing.T) {
	s := space(t, andText)
	for _, x := range []struct {
		wins                               []int
		monotone, unanimous, neutral, safe bool
		meet                               bool
		dictator                           int
	}{
		{[]int{8, 8, 8}, true, true, false, true, true, -1},
		{[]int{14, 14, 14}, true, true, false, false, false, -1},
		{[]int{10, 10, 10}, true, true, true, true, true, 0},
		{[]int{12, 12, 12}, true, true, true, true, true, 1},
		{[]int{10, 12, 8}, true, true, false, false, false, -1},
		{[]int{10, 12, 10}, true, true, true, false, false, -1},
		{[]int{0, 0, 0}, true, false, false, true, true, -1},
		{[]int{15, 15, 15}, true, false, false, true, true, -1},
		{[]int{15, 15, 0}, true, false, false, false, false, -1},
		{[]int{0, 8, 0}, true, false, false, true, true, -1},
		// The first premise is always answered with 1, so what the first voter says of the other one must lead to what follows.
		{[]int{15, 10, 10}, true, false, false, false, false, -1},
		{[]int{3, 3, 3}, false, false, true, false, false, -1},
		{[]int{2, 8, 8}, false, false, false, false, false, -1},
		{[]int{6, 0, 0}, false, false, false, true, true, -1},
	} {
		r := impl.Rule{Voters: 2, Wins: x.wins}
		if impl.IsMonotone(s, r) != x.monotone || impl.IsUnanimous(s, r) != x.unanimous || impl.IsNeutral(s, r) != x.neutral {
			t.Errorf("IsMonotone, IsUnanimous, IsNeutral of %v = %v, %v, %v", x.wins, impl.IsMonotone(s, r), impl.IsUnanimous(s, r), impl.IsNeutral(s, r))
		}
		if impl.IsSafe(s, r) != x.safe || impl.DoMeet(s, r) != x.meet || impl.DictatorOf(s, r) != x.dictator {
			t.Errorf("IsSafe, DoMeet, DictatorOf of %v = %v, %v, %d", x.wins, impl.IsSafe(s, r), impl.DoMeet(s, r), impl.DictatorOf(s, r))
		}
	}
	wantNumber(t, "ApplyRule by both", impl.ApplyRule(s, impl.Rule{Voters: 2, Wins: []int{8, 8, 8}}, []int{1, 7}), 1)
	wantNumber(t, "ApplyRule by any", impl.ApplyRule(s, impl.Rule{Voters: 2, Wins: []int{14, 14, 14}}, []int{1, 2}), 3)
	wantNumber(t, "ApplyRule by one each", impl.ApplyRule(s, impl.Rule{Voters: 2, Wins: []int{10, 12, 10}}, []int{1, 2}), 3)
	wantNumber(t, "ApplyRule by the one alone", impl.ApplyRule(s, impl.Rule{Voters: 2, Wins: []int{2, 4, 6}}, []int{7, 0}), 5)
	wantNumber(t, "ApplyRule by most of three", impl.ApplyRule(s, impl.Rule{Voters: 3, Wins: []int{232, 232, 232}}, []int{1, 2, 7}), 3)
}

// TestSafeRules has spaces with few safe rules, in their order.
func TestSafeRules(t *testing.T) {
	for _, x := range []struct {
		text   string
		voters int
		wins   [][]int
	}{
		{"1:0,1", 1, [][]int{{2}}},
		{"1:0,1", 2, [][]int{{8}, {10}, {12}, {14}}},
		{"2:0,3", 2, [][]int{{8, 8}, {10, 10}, {12, 12}, {14, 14}}},
		// One issue is the other way round, so a group wins for it if it blocks the other one.
		{"2:1,2", 2, [][]int{{8, 14}, {10, 10}, {12, 12}, {14, 8}}},
		// Who wins for the issue 1 must win for the issue 0, too.
		{"2:0,1,3", 2, [][]int{{8, 8}, {10, 8}, {10, 10}, {12, 8}, {12, 12}, {14, 8}, {14, 10}, {14, 12}, {14, 14}}},
		{andText, 2, [][]int{{8, 8, 8}, {10, 10, 10}, {12, 12, 12}}},
		{cycleText, 2, [][]int{{10, 10, 10}, {12, 12, 12}}},
		{cycleText, 1, [][]int{{2, 2, 2}}},
	} {
		var got [][]int
		for _, r := range impl.SafeRules(space(t, x.text), x.voters) {
			if r.Voters != x.voters {
				t.Errorf("SafeRules(%s, %d) has %v", x.text, x.voters, r)
			}
			got = append(got, r.Wins)
		}
		if !slices.EqualFunc(got, x.wins, slices.Equal) {
			t.Errorf("SafeRules(%s, %d) = %v, want %v", x.text, x.voters, got, x.wins)
		}
	}
}

func TestRuleOfQuotas(t *testing.T) {
	s := space(t, andText)
	for _, x := range []struct {
		n            int
		quotas, wins []int
	}{
		{1, []int{1, 1, 1}, []int{2, 2, 2}},
		{2, []int{2, 1, 2}, []int{8, 14, 8}},
		{3, []int{1, 2, 3}, []int{254, 232, 128}},
	} {
		if r, ok := impl.RuleOfQuotas(s, x.n, x.quotas); !ok || r.Voters != x.n || !slices.Equal(r.Wins, x.wins) {
			t.Errorf("RuleOfQuotas(%d, %v) = %v, %v, want %v", x.n, x.quotas, r, ok, x.wins)
		}
	}
}
