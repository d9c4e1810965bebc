package tests

import (
	"slices"
	"testing"

	"loop.example/jointjudgments/impl"
)

// wantBoth checks that a report was true of some, and false of others.
func wantBoth(t *testing.T, name string, times map[bool]int) {
	t.Helper()
	if times[true] == 0 || times[false] == 0 {
		t.Errorf("%s: %v", name, times)
	}
}

func TestPromise26SafeQuotasAreSafeRules(t *testing.T) {
	t.Parallel()
	times := map[bool]int{}
	someSpaces(6007, func(s impl.Space) {
		for n := 1; n <= maxGroup; n++ {
			eachQuotas(s.Issues, n, func(quotas []int) {
				r, ok := impl.RuleOfQuotas(s, n, quotas)
				safe := impl.IsSafe(s, r)
				times[safe]++
				if !ok || impl.IsQuotaSafe(s, n, quotas) != safe {
					t.Fatalf("RuleOfQuotas(%v, %d, %v) = %v, %v, IsSafe = %v", s, n, quotas, r, ok, safe)
				}
			})
		}
	})
	wantBoth(t, "IsSafe", times)
	// One vote is always safe; issues with one answer alone are safe with each quota.
	for _, x := range []struct {
		text   string
		n      int
		quotas []int
		safe   bool
	}{
		{"1:0", 3, []int{1}, true}, {"1:1", 3, []int{3}, true}, {"2:1,3", 3, []int{1, 3}, true},
		{cycleText, 1, []int{1, 1, 1}, true}, {cycleText, 3, []int{2, 2, 2}, false},
		{andText, 3, []int{3, 3, 3}, true}, {andText, 3, []int{3, 3, 2}, false},
	} {
		s := space(t, x.text)
		r, _ := impl.RuleOfQuotas(s, x.n, x.quotas)
		if impl.IsQuotaSafe(s, x.n, x.quotas) != x.safe || impl.IsSafe(s, r) != x.safe {
			t.Errorf("IsQuotaSafe or IsSafe of %v is not %v", x, x.safe)
		}
	}
	// What are no quotas is neither, and four votes are too many for a rule by groups alone.
	s := space(t, "3:7")
	for _, quotas := range [][]int{nil, {1, 1}, {1, 1, 1, 1}, {0, 1, 1}, {1, 1, 4}} {
		r, ok := impl.RuleOfQuotas(s, 3, quotas)
		wantNoRule(t, "RuleOfQuotas", r, ok)
		if impl.IsQuotaSafe(s, 3, quotas) || impl.IsSafe(s, r) {
			t.Errorf("IsQuotaSafe or IsSafe of the quotas %v", quotas)
		}
	}
	r, ok := impl.RuleOfQuotas(s, 4, []int{1, 1, 1})
	wantNoRule(t, "RuleOfQuotas of four", r, ok)
	if !impl.IsQuotaSafe(s, 4, []int{1, 1, 1}) || impl.IsSafe(s, r) {
		t.Error("IsQuotaSafe or IsSafe of four votes")
	}
}

func TestPromise37RulesCanBeCut(t *testing.T) {
	t.Parallel()
	eachRule(func(s impl.Space, r impl.Rule) {
		for n := s.Issues; ; n-- {
			cut := impl.Rule{Voters: r.Voters, Wins: r.Wins[:n]}
			if !impl.ValidRule(s, cut) {
				t.Fatalf("ValidRule(%v, %v) is false", s, cut)
			}
			if n == 1 {
				return
			}
			// A rule is for the issues of its space alone.
			s, _ = impl.DropIssue(s, n-1)
			if impl.ValidRule(s, cut) {
				t.Fatalf("ValidRule(%v, %v) is true", s, cut)
			}
		}
	})
	one := space(t, "1:0,1")
	if impl.ValidRule(one, impl.Rule{Voters: 1}) || impl.ValidRule(one, impl.Rule{Voters: 1, Wins: []int{}}) {
		t.Error("ValidRule of a rule for no issue")
	}
	for _, s := range []impl.Space{one, space(t, andText), space(t, allFour)} {
		for _, r := range invalidRules(s.Issues) {
			if impl.ValidRule(s, r) {
				t.Errorf("ValidRule(%v, %v) is true", s, r)
			}
		}
	}
}

func TestPromise38RulesAnswerIssueByIssue(t *testing.T) {
	t.Parallel()
	eachRule(func(s impl.Space, r impl.Rule) {
		safe, dictator := impl.IsSafe(s, r), impl.DictatorOf(s, r)
		eachVotesOf(s, r.Voters, 50, func(votes []int) {
			x := impl.ApplyRule(s, r, votes)
			if x < 0 || x >= 1<<s.Issues || safe && !impl.InSpace(s, x) || dictator >= 0 && x != votes[dictator] {
				t.Fatalf("ApplyRule(%v, %v, %v) = %d", s, r, votes, x)
			}
			// Each issue is answered as if it were the only one.
			for j := range s.Issues {
				cut := impl.Rule{Voters: r.Voters, Wins: r.Wins[j : j+1]}
				answers := make([]int, len(votes))
				for i, vote := range votes {
					answers[i] = answer(vote, j)
				}
				if got := impl.ApplyRule(impl.Space{Issues: 1, All: []int{0, 1}}, cut, answers); got != answer(x, j) {
					t.Fatalf("ApplyRule(%v, %v, %v) = %d, but %d to the issue %d alone", s, r, votes, x, got, j)
				}
			}
		})
	})
	// Nobody wins against all, and all groups, that of none among them, against nobody.
	s := space(t, andText)
	wantNumber(t, "ApplyRule of nobody", impl.ApplyRule(s, impl.Rule{Voters: 3, Wins: []int{0, 0, 0}}, []int{7, 7, 7}), 0)
	wantNumber(t, "ApplyRule of all", impl.ApplyRule(s, impl.Rule{Voters: 3, Wins: []int{255, 255, 255}}, []int{0, 0, 0}), 7)
	for _, votes := range [][]int{nil, {7}, {7, 7, 7}, {7, 3}, {8, 7}, {7, -1}} {
		wantNumber(t, "ApplyRule of no votes", impl.ApplyRule(s, impl.Rule{Voters: 2, Wins: []int{15, 15, 15}}, votes), -1)
	}
}

func TestPromise39OppositeRulesAreMonotoneAlike(t *testing.T) {
	t.Parallel()
	times := map[bool]int{}
	eachRule(func(s impl.Space, r impl.Rule) {
		monotone := impl.IsMonotone(s, r)
		times[monotone]++
		if impl.IsMonotone(s, oppositeByWords(r)) != monotone || monotone != holdsByWords(r, isMonotoneWins) {
			t.Fatalf("IsMonotone(%v, %v) = %v", s, r, monotone)
		}
	})
	wantBoth(t, "IsMonotone", times)
	// By both rules without a difference greater groups win as much: nobody, and all.
	s := space(t, "2:0,3")
	for _, wins := range []int{0, 255} {
		if !impl.IsMonotone(s, impl.Rule{Voters: 3, Wins: []int{wins, wins}}) {
			t.Errorf("IsMonotone of %d is false", wins)
		}
	}
	for _, r := range append(invalidRules(2), impl.Rule{Voters: 3, Wins: []int{255, 127}}) {
		if impl.IsMonotone(s, r) {
			t.Errorf("IsMonotone of %v is true", r)
		}
	}
}

func TestPromise40UnanimousRulesKeepOneVoteOfAll(t *testing.T) {
	t.Parallel()
	times := map[bool]int{}
	eachRule(func(s impl.Space, r impl.Rule) {
		unanimous := impl.IsUnanimous(s, r)
		times[unanimous]++
		kept, open := true, true
		for _, x := range s.All {
			kept = kept && impl.ApplyRule(s, r, slices.Repeat([]int{x}, r.Voters)) == x
		}
		for j := range s.Issues {
			open = open && countsOf(s.All, j)[0] > 0 && countsOf(s.All, j)[1] > 0
		}
		// Where both answers to each issue may be, no other rule keeps all judgments.
		if unanimous && !kept || open && kept && !unanimous {
			t.Fatalf("IsUnanimous(%v, %v) = %v", s, r, unanimous)
		}
	})
	wantBoth(t, "IsUnanimous", times)
	// Where an issue has one answer alone, that one may be kept by a rule that is not unanimous.
	s, r := space(t, "2:1,3"), impl.Rule{Voters: 2, Wins: []int{15, 8}}
	if impl.IsUnanimous(s, r) || impl.ApplyRule(s, r, []int{1, 1}) != 1 || impl.ApplyRule(s, r, []int{3, 3}) != 3 {
		t.Errorf("IsUnanimous(%v, %v)", s, r)
	}
	for _, r := range append(invalidRules(2), impl.Rule{Voters: 2, Wins: []int{8, 0}}, impl.Rule{Voters: 2, Wins: []int{9, 8}}) {
		if impl.IsUnanimous(s, r) {
			t.Errorf("IsUnanimous of %v is true", r)
		}
	}
}

func TestPromise41NeutralRulesTurnWithAnswers(t *testing.T) {
	t.Parallel()
	times := map[bool]int{}
	eachRule(func(s impl.Space, r impl.Rule) {
		neutral := impl.IsNeutral(s, r)
		times[neutral]++
		if impl.DictatorOf(s, r) >= 0 && !neutral {
			t.Fatalf("IsNeutral(%v, %v) is false of a dictator", s, r)
		}
		if neutral && impl.IsMonotone(s, r) && !impl.IsUnanimous(s, r) {
			t.Fatalf("IsNeutral(%v, %v) is true, IsUnanimous is false", s, r)
		}
		// With all answers turned a neutral rule, and no other one, turns its answer.
		turns := true
		all := spaceOfMask(s.Issues, 1<<(1<<s.Issues)-1)
		for k := range 1 << r.Voters {
			votes, turned := make([]int, r.Voters), make([]int, r.Voters)
			for i := range votes {
				votes[i] = answer(k, i) * (1<<s.Issues - 1)
				turned[i] = 1<<s.Issues - 1 - votes[i]
			}
			turns = turns && impl.ApplyRule(all, r, votes)+impl.ApplyRule(all, r, turned) == 1<<s.Issues-1
			turns = turns && impl.ApplyRule(all, r, votes)&impl.ApplyRule(all, r, turned) == 0
		}
		if turns != neutral {
			t.Fatalf("IsNeutral(%v, %v) = %v", s, r, neutral)
		}
	})
	wantBoth(t, "IsNeutral", times)
	// What turns each vote of one is neutral, too, but neither monotone nor unanimous.
	s, r := space(t, "2:1,2"), impl.Rule{Voters: 1, Wins: []int{1, 1}}
	if !impl.IsNeutral(s, r) || impl.IsMonotone(s, r) || impl.IsUnanimous(s, r) || impl.DictatorOf(s, r) != -1 {
		t.Errorf("IsNeutral(%v, %v)", s, r)
	}
	for _, r := range append(invalidRules(2), impl.Rule{Voters: 2, Wins: []int{0, 0}}, impl.Rule{Voters: 2, Wins: []int{10, 8}}) {
		if impl.IsNeutral(s, r) {
			t.Errorf("IsNeutral of %v is true", r)
		}
	}
}

func TestPromise42DictatorsAreSafe(t *testing.T) {
	t.Parallel()
	times := map[bool]int{}
	eachRule(func(s impl.Space, r impl.Rule) {
		dictator := impl.DictatorOf(s, r)
		times[dictator >= 0]++
		if dictator < -1 || dictator >= r.Voters {
			t.Fatalf("DictatorOf(%v, %v) = %d", s, r, dictator)
		}
		if dictator >= 0 && !(impl.IsMonotone(s, r) && impl.IsUnanimous(s, r) && impl.IsNeutral(s, r) && impl.IsSafe(s, r)) {
			t.Fatalf("DictatorOf(%v, %v) = %d", s, r, dictator)
		}
	})
	wantBoth(t, "DictatorOf", times)
	someSpaces(307, func(s impl.Space) {
		for voters := 1; voters <= maxGroup; voters++ {
			for voter := range voters {
				if got := impl.DictatorOf(s, dictatorByWords(voters, voter, s.Issues)); got != voter {
					t.Fatalf("DictatorOf the dictator %d of %d in %v = %d", voter, voters, s, got)
				}
			}
		}
	})
	// One voter for one issue, and another one for the other, are no dictator.
	s := space(t, "2:0,1,2,3")
	for _, r := range append(invalidRules(2), impl.Rule{Voters: 2, Wins: []int{10, 12}}, impl.Rule{Voters: 2, Wins: []int{10, 14}}) {
		wantNumber(t, "DictatorOf", impl.DictatorOf(s, r), -1)
	}
}

func TestPromise43SafeRulesAreThoseWhoseGroupsMeet(t *testing.T) {
	t.Parallel()
	times := map[bool]int{}
	check := func(s impl.Space, r impl.Rule) {
		safe := impl.IsSafe(s, r)
		times[safe]++
		if !impl.IsMonotone(s, r) || safe != safeByWords(s, r) || impl.DoMeet(s, r) != safe {
			t.Fatalf("IsSafe(%v, %v) = %v, DoMeet = %v", s, r, safe, impl.DoMeet(s, r))
		}
	}
	rules := [][]impl.Rule{1: monotoneRules(1, 1<<10), 2: monotoneRules(2, 1<<10), 3: monotoneRules(3, 60), 4: monotoneRules(4, 60)}
	someSpaces(1511, func(s impl.Space) {
		for _, r := range rules[s.Issues] {
			check(s, r)
		}
	})
	wantBoth(t, "IsSafe", times)
	// Nobody wins where 0 to all issues may be, all groups where 1 to all may be, and of an issue with one answer alone this one.
	for _, x := range []struct {
		text string
		wins []int
		safe bool
	}{
		{"2:0,3", []int{0, 0}, true}, {"2:1,2", []int{0, 0}, false}, {"2:0,3", []int{15, 15}, true}, {"2:1,2", []int{15, 15}, false},
		{"2:1,2", []int{15, 0}, true}, {"1:0", []int{0}, true}, {"1:0", []int{15}, false}, {"1:1", []int{0}, false}, {"1:1", []int{15}, true},
		{"2:1,3", []int{8, 0}, true}, {"2:1,3", []int{0, 8}, false}, {"1:0", []int{14}, true}, {"1:1", []int{14}, true},
	} {
		s, r := space(t, x.text), impl.Rule{Voters: 2, Wins: x.wins}
		if impl.IsSafe(s, r) != x.safe || impl.DoMeet(s, r) != x.safe {
			t.Errorf("IsSafe or DoMeet of %v is not %v", x, x.safe)
		}
	}
	for _, r := range invalidRules(2) {
		if impl.IsSafe(space(t, "2:0,1,2,3"), r) {
			t.Errorf("IsSafe of %v is true", r)
		}
	}
}

func TestPromise44GroupsThatMeetAreSafe(t *testing.T) {
	t.Parallel()
	times := map[bool]int{}
	eachRule(func(s impl.Space, r impl.Rule) {
		meet := impl.DoMeet(s, r)
		times[meet]++
		if impl.IsMonotone(s, r) && meet != impl.IsSafe(s, r) || meet != doMeetByWords(impl.CriticalParts(s), r) {
			t.Fatalf("DoMeet(%v, %v) = %v, IsSafe = %v", s, r, meet, impl.IsSafe(s, r))
		}
		// With nothing critical there are no groups that would have to meet, those of rules that are not unanimous neither.
		if len(impl.CriticalParts(s)) == 0 && !meet {
			t.Fatalf("DoMeet(%v, %v) is false, but nothing is critical", s, r)
		}
	})
	wantBoth(t, "DoMeet", times)
	for _, text := range []string{"1:0,1", "2:0,1,2,3", "3:0,1,2,3,4,5,6,7", allFour} {
		s := space(t, text)
		for _, r := range invalidRules(s.Issues) {
			if impl.DoMeet(s, r) {
				t.Errorf("DoMeet(%v, %v) is true", s, r)
			}
		}
	}
}

func TestPromise45BlockedSpacesHaveDictatorsAlone(t *testing.T) {
	t.Parallel()
	times := map[bool]int{}
	someSpaces(101, func(s impl.Space) {
		blocked := impl.IsBlocked(s)
		times[blocked]++
		for voters := 1; voters <= 2; voters++ {
			rules := impl.SafeRules(s, voters)
			for _, r := range rules {
				if r.Voters != voters || !impl.IsMonotone(s, r) || !impl.IsUnanimous(s, r) || !impl.IsSafe(s, r) {
					t.Fatalf("SafeRules(%v, %d) has %v", s, voters, r)
				}
				if blocked && impl.DictatorOf(s, r) < 0 {
					t.Fatalf("SafeRules(%v, %d) has %v, which is no dictator", s, voters, r)
				}
			}
			for voter := range voters {
				if !hasRule(rules, dictatorByWords(voters, voter, s.Issues)) {
					t.Fatalf("SafeRules(%v, %d) has not the dictator %d", s, voters, voter)
				}
			}
		}
	})
	wantBoth(t, "IsBlocked", times)
	// Issues with one answer alone leave both voters all that two can have, and of one voter there is the dictator alone.
	for text, many := range map[string]int{"1:0": 4, "1:1": 4, "2:3": 16, "2:0,3": 4, "2:0,1": 16, "4:5": 256, allFour: 256, cycleText: 2} {
		if got := impl.SafeRules(space(t, text), 2); len(got) != many {
			t.Errorf("SafeRules(%s, 2) = %v, want %d", text, got, many)
		}
		if got := impl.SafeRules(space(t, text), 1); len(got) != 1 || impl.DictatorOf(space(t, text), got[0]) != 0 {
			t.Errorf("SafeRules(%s, 1) = %v", text, got)
		}
	}
	for _, voters := range append(farNumbers(), 0, 3, 4) {
		if got := impl.SafeRules(space(t, cycleText), voters); len(got) != 0 {
			t.Errorf("SafeRules of %d voters = %v", voters, got)
		}
	}
}

func TestPromise46QuotasAreRulesByGroups(t *testing.T) {
	t.Parallel()
	someSpaces(2003, func(s impl.Space) {
		for n := 1; n <= maxGroup; n++ {
			eachQuotas(s.Issues, n, func(quotas []int) {
				r, ok := impl.RuleOfQuotas(s, n, quotas)
				if !ok || r.Voters != n || !impl.IsMonotone(s, r) || !impl.IsUnanimous(s, r) {
					t.Fatalf("RuleOfQuotas(%v, %d, %v) = %v, %v", s, n, quotas, r, ok)
				}
				eachVotesOf(s, n, 10, func(votes []int) {
					if impl.ApplyRule(s, r, votes) != impl.QuotaOf(s, votes, quotas) {
						t.Fatalf("ApplyRule(%v, %v, %v) = %d of the quotas %v", s, r, votes, impl.ApplyRule(s, r, votes), quotas)
					}
				})
			})
		}
	})
	s := space(t, andText)
	for _, n := range append(farNumbers(), 0, maxGroup+1, maxVotes) {
		r, ok := impl.RuleOfQuotas(s, n, []int{1, 1, 1})
		wantNoRule(t, "RuleOfQuotas", r, ok)
	}
	for _, quotas := range [][]int{nil, {2, 2}, {2, 2, 2, 2}, {0, 2, 2}, {2, 3, 2}, {2, 2, -1}} {
		r, ok := impl.RuleOfQuotas(s, 2, quotas)
		wantNoRule(t, "RuleOfQuotas", r, ok)
	}
}
