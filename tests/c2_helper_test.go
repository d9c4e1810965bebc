package tests

import (
	"slices"
	"testing"

	"loop.example/jointjudgments/impl"
)

// maxVotes is written out, so that a changed constant is noticed.
const maxVotes = 5

// votesOf returns n votes of the space, those with the number k in the order in which the last one changes first.
func votesOf(s impl.Space, n int, k int) []int {
	votes := make([]int, n)
	for i := n - 1; i >= 0; i-- {
		votes[i] = s.All[k%len(s.All)]
		k /= len(s.All)
	}
	return votes
}

// listsOf returns how many lists of n votes the space has.
func listsOf(s impl.Space, n int) int {
	many := 1
	for range n {
		many *= len(s.All)
	}
	return many
}

// haveCommonFactor reports whether a number above 1 divides both.
func haveCommonFactor(a int, b int) bool {
	for b > 0 {
		a, b = b, a%b
	}
	return a > 1
}

// someVotes calls visit with lists of 1 to maxVotes votes of the space, of each length all if these are at most most, and about as many otherwise.
func someVotes(s impl.Space, most int, visit func(votes []int)) {
	for n := 1; n <= maxVotes; n++ {
		many := listsOf(s, n)
		step := (many + most - 1) / most
		for haveCommonFactor(step, len(s.All)) {
			step++
		}
		for k := many - 1; k >= 0; k -= step {
			visit(votesOf(s, n, k))
		}
	}
}

// eachPoll calls visit with all votes in all spaces of up to two issues, and with some in those of three and in some of those of four.
func eachPoll(visit func(s impl.Space, votes []int)) {
	someSpaces(307, func(s impl.Space) {
		most := 1 << 10
		if s.Issues > 2 {
			most = 40
		}
		someVotes(s, most, func(votes []int) { visit(s, votes) })
	})
}

// ordersOf returns all orders of the first n numbers, that with the lesser number at the first place where two differ first.
func ordersOf(n int) [][]int {
	orders := [][]int{nil}
	for range n {
		var longer [][]int
		for _, order := range orders {
			for i := range n {
				if !slices.Contains(order, i) {
					longer = append(longer, append(slices.Clone(order), i))
				}
			}
		}
		orders = longer
	}
	return orders
}

// eachQuotas calls visit with all lists of quotas for so many issues and n votes.
func eachQuotas(issues int, n int, visit func(quotas []int)) {
	many := 1
	for range issues {
		many *= n
	}
	for k := range many {
		quotas := make([]int, issues)
		for j, rest := 0, k; j < issues; j++ {
			quotas[j] = rest%n + 1
			rest /= n
		}
		visit(quotas)
	}
}

// isAmong reports whether all of the list are in the greater one.
func isAmong(list []int, greater []int) bool {
	return !slices.ContainsFunc(list, func(x int) bool { return !slices.Contains(greater, x) })
}

// invalidVotes returns lists that are no votes in the space, none and one more than there may be among them.
func invalidVotes(s impl.Space) [][]int {
	first := s.All[0]
	lists := [][]int{nil, {}, slices.Repeat([]int{first}, maxVotes+1), slices.Repeat([]int{first}, 1000)}
	others := farNumbers()
	for x := range 1 << s.Issues {
		if !slices.Contains(s.All, x) {
			others = append(others, x)
		}
	}
	for _, x := range append(others, 1<<s.Issues) {
		lists = append(lists, []int{x}, []int{first, x}, []int{x, first}, []int{first, first, first, first, x})
	}
	return lists
}

// wantNumber checks a number.
func wantNumber(t *testing.T, name string, got int, want int) {
	t.Helper()
	if got != want {
		t.Errorf("%s = %d, want %d", name, got, want)
	}
}
