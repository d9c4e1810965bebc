package tests

import (
	"slices"
	"testing"

	"loop.example/jointjudgments/impl"
)

func TestLimitOfVotes(t *testing.T) {
	wantNumber(t, "MaxVotes", impl.MaxVotes, maxVotes)
}

func TestValidVotes(t *testing.T) {
	s := space(t, andText)
	for _, votes := range [][]int{{0}, {7}, {1, 1}, {7, 0, 2}, {2, 1, 0, 7}, {7, 7, 7, 7, 7}} {
		if !impl.ValidVotes(s, votes) {
			t.Errorf("ValidVotes(%v) is false", votes)
		}
	}
	for _, votes := range [][]int{nil, {}, {3}, {0, 3}, {3, 0}, {8}, {-1}, {7, 7, 7, 7, 7, 7}, {0, 1, 2, 7, 6}} {
		if impl.ValidVotes(s, votes) {
			t.Errorf("ValidVotes(%v) is true", votes)
		}
	}
}

func TestCountsByWords(t *testing.T) {
	t.Parallel()
	eachPoll(func(s impl.Space, votes []int) {
		if got, want := impl.SupportOf(s, votes), supportByWords(s, votes); !slices.Equal(got, want) {
			t.Fatalf("SupportOf(%v, %v) = %v, want %v", s, votes, got, want)
		}
		if got, want := impl.MajorityOf(s, votes), majorityByWords(s, votes); got != want {
			t.Fatalf("MajorityOf(%v, %v) = %d, want %d", s, votes, got, want)
		}
		wanted := partOfAnswers(wantedByWords(s, votes))
		if got := impl.WantedPart(s, votes); got != wanted {
			t.Fatalf("WantedPart(%v, %v) = %v, want %v", s, votes, got, wanted)
		}
		if got, want := impl.IsSettled(s, votes), openByWords(s, wanted); got != want {
			t.Fatalf("IsSettled(%v, %v) = %v", s, votes, got)
		}
	})
}

func TestListsByWords(t *testing.T) {
	t.Parallel()
	rules := []struct {
		name    string
		rule    func(s impl.Space, votes []int) []int
		byWords func(s impl.Space, votes []int) []int
	}{
		{"MedianRule", impl.MedianRule, medianByWords},
		{"MiddleRule", impl.MiddleRule, middleByWords},
		{"KeptRule", impl.KeptRule, keptByWords},
		{"SlaterRule", impl.SlaterRule, slaterByWords},
	}
	eachPoll(func(s impl.Space, votes []int) {
		for _, r := range rules {
			if got, want := r.rule(s, votes), r.byWords(s, votes); !slices.Equal(got, want) {
				t.Fatalf("%s(%v, %v) = %v, want %v", r.name, s, votes, got, want)
			}
		}
	})
}

func TestTurnsByWords(t *testing.T) {
	t.Parallel()
	eachPoll(func(s impl.Space, votes []int) {
		for _, order := range ordersOf(s.Issues) {
			if got, want := impl.TurnRule(s, votes, order), turnByWords(s, votes, order); got != want {
				t.Fatalf("TurnRule(%v, %v, %v) = %d, want %d", s, votes, order, got, want)
			}
		}
		if got, want := impl.RankedRule(s, votes), rankedByWords(s, votes); got != want {
			t.Fatalf("RankedRule(%v, %v) = %d, want %d", s, votes, got, want)
		}
	})
}

func TestPremiseRuleByWords(t *testing.T) {
	t.Parallel()
	eachPoll(func(s impl.Space, votes []int) {
		for premises := range 1 << s.Issues {
			list := premiseByWords(s, votes, premises)
			want, is := 0, len(list) == 1
			if is {
				want = list[0]
			}
			if got, ok := impl.PremiseRule(s, votes, premises); ok != is || got != want {
				t.Fatalf("PremiseRule(%v, %v, %d) = %d, %v, want %v", s, votes, premises, got, ok, list)
			}
		}
	})
}

func TestLineOfByWords(t *testing.T) {
	t.Parallel()
	orders := make([][][]int, maxVotes+1)
	for n := range orders {
		orders[n] = ordersOf(n)
	}
	eachPoll(func(s impl.Space, votes []int) {
		want := lineByWords(s, votes, orders[len(votes)])
		if got, ok := impl.LineOf(s, votes); ok != (want != nil) || !slices.Equal(got, want) {
			t.Fatalf("LineOf(%v, %v) = %v, %v, want %v", s, votes, got, ok, want)
		}
	})
}

func TestQuotaOf(t *testing.T) {
	t.Parallel()
	someSpaces(1009, func(s impl.Space) {
		someVotes(s, 4, func(votes []int) {
			eachQuotas(s.Issues, len(votes), func(quotas []int) {
				if got, want := impl.QuotaOf(s, votes, quotas), quotaByWords(votes, quotas); got != want {
					t.Fatalf("QuotaOf(%v, %v, %v) = %d, want %d", s, votes, quotas, got, want)
				}
			})
		})
	})
	s := space(t, andText)
	votes := []int{1, 2, 7}
	wantNumber(t, "QuotaOf one each", impl.QuotaOf(s, votes, []int{1, 1, 1}), 7)
	wantNumber(t, "QuotaOf two each", impl.QuotaOf(s, votes, []int{2, 2, 2}), 3)
	wantNumber(t, "QuotaOf all each", impl.QuotaOf(s, votes, []int{3, 3, 3}), 0)
	wantNumber(t, "QuotaOf different ones", impl.QuotaOf(s, votes, []int{3, 2, 1}), 6)
	wantNumber(t, "QuotaOf one vote", impl.QuotaOf(s, []int{2}, []int{1, 1, 1}), 2)
}

func TestIsQuotaSafe(t *testing.T) {
	t.Parallel()
	someSpaces(4099, func(s impl.Space) {
		for n := 1; n <= maxVotes; n++ {
			eachQuotas(s.Issues, n, func(quotas []int) {
				if got, want := impl.IsQuotaSafe(s, n, quotas), quotaSafeByWords(s, n, quotas); got != want {
					t.Fatalf("IsQuotaSafe(%v, %d, %v) = %v", s, n, quotas, got)
				}
			})
		}
	})
	// A part of two answers, 1 and 0: both quotas may be the same, or the former the greater one, but not the lesser one.
	step := space(t, "2:0,1,3")
	for _, q := range []struct {
		n, one, two int
		safe        bool
	}{{1, 1, 1, true}, {2, 1, 2, true}, {2, 2, 1, false}, {3, 2, 2, true}, {3, 3, 2, false}, {5, 4, 5, true}, {5, 5, 5, true}, {5, 5, 4, false}} {
		if got := impl.IsQuotaSafe(step, q.n, []int{q.one, q.two}); got != q.safe {
			t.Errorf("IsQuotaSafe of a step, %v = %v", q, got)
		}
	}
}

// TestSafeQuotasLeadToJudgments checks that quotas are safe exactly if they make a judgment of all votes.
func TestSafeQuotasLeadToJudgments(t *testing.T) {
	t.Parallel()
	times := map[bool]int{}
	eachSpace(maxIssues-1, func(s impl.Space) {
		for n := 1; n <= 3; n++ {
			eachQuotas(s.Issues, n, func(quotas []int) {
				safe := true
				for k := 0; safe && k < listsOf(s, n); k++ {
					safe = slices.Contains(s.All, impl.QuotaOf(s, votesOf(s, n, k), quotas))
				}
				times[safe]++
				if impl.IsQuotaSafe(s, n, quotas) != safe {
					t.Fatalf("IsQuotaSafe(%v, %d, %v) is not %v", s, n, quotas, safe)
				}
			})
		}
	})
	if times[true] == 0 || times[false] == 0 {
		t.Errorf("of all quotas, %v are safe", times)
	}
}

// TestRulesDiffer has votes of which each rule by lists makes something else.
func TestRulesDiffer(t *testing.T) {
	// Wanted are 1 to the issues 1 and 3 alone. 14 gives all but one answer; 2 does, too, but that one is wanted by more votes; and 9 is kept for it.
	s := space(t, "4:2,9,13,14,15")
	votes := []int{14, 14, 9, 2, 9}
	wantNumber(t, "MajorityOf", impl.MajorityOf(s, votes), 10)
	wantNums(t, "MedianRule", impl.MedianRule(s, votes), 14)
	wantNums(t, "MiddleRule", impl.MiddleRule(s, votes), 2, 9, 14, 15)
	wantNums(t, "KeptRule", impl.KeptRule(s, votes), 2, 9, 14)
	wantNums(t, "SlaterRule", impl.SlaterRule(s, votes), 2, 14)
	wantNumber(t, "RankedRule", impl.RankedRule(s, votes), 14)
}

// TestPremisesAndWhatFollows has votes that want both premises, but not what follows from them.
func TestPremisesAndWhatFollows(t *testing.T) {
	s := space(t, andText)
	votes := []int{1, 2, 7, 7, 0}
	wantNums(t, "SupportOf", impl.SupportOf(s, votes), 3, 3, 2)
	wantNumber(t, "MajorityOf", impl.MajorityOf(s, votes), 3)
	wantNums(t, "MedianRule", impl.MedianRule(s, votes), 1, 2, 7)
	wantNums(t, "MiddleRule", impl.MiddleRule(s, votes), 1, 2)
	wantNumber(t, "RankedRule", impl.RankedRule(s, votes), 7)
	wantNumber(t, "TurnRule of the premises first", impl.TurnRule(s, votes, []int{0, 1, 2}), 7)
	wantNumber(t, "TurnRule of what follows first", impl.TurnRule(s, votes, []int{2, 0, 1}), 1)
	wantNumber(t, "TurnRule of what follows between", impl.TurnRule(s, votes, []int{1, 2, 0}), 2)
	wantNumber(t, "TurnRule of a tie", impl.TurnRule(s, []int{0, 7}, []int{0, 1, 2}), 0)
	for premises, want := range []int{0: -1, 1: -1, 2: -1, 3: 7, 4: -1, 5: 1, 6: 2, 7: -1} {
		x, ok := impl.PremiseRule(s, votes, premises)
		if ok != (want >= 0) || x != max(want, 0) {
			t.Errorf("PremiseRule(%d) = %d, %v, want %d", premises, x, ok, want)
		}
	}
	if x, ok := impl.PremiseRule(space(t, "2:2"), []int{2}, 0); !ok || x != 2 {
		t.Errorf("PremiseRule of no premises, but one judgment = %d, %v", x, ok)
	}
}

func TestLineOf(t *testing.T) {
	all := space(t, allFour)
	lines := []struct{ votes, line []int }{
		{[]int{9}, []int{0}},
		{[]int{9, 6}, []int{0, 1}},
		{[]int{5, 5, 5, 5, 5}, []int{0, 1, 2, 3, 4}},
		{[]int{15, 0, 3, 1, 7}, []int{0, 4, 2, 3, 1}},
		{[]int{3, 0, 15}, []int{1, 0, 2}},
		{[]int{1, 2, 3}, []int{0, 2, 1}},
		{[]int{1, 2, 4}, nil},
		{[]int{0, 3, 0}, []int{0, 2, 1}},
		{[]int{0, 3, 1, 2, 0}, nil},
	}
	for _, x := range lines {
		line, ok := impl.LineOf(all, x.votes)
		if ok != (x.line != nil) || !slices.Equal(line, x.line) {
			t.Errorf("LineOf(%v) = %v, %v, want %v", x.votes, line, ok, x.line)
		}
	}
}
