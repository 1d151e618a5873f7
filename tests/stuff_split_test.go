package tests

import (
	"math"
	"math/rand"
	"slices"
	"sync"
	"testing"

	"loop.example/malthouse/impl"
)

func checkSplit(t *testing.T, amounts []int, n int, want ...int) {
	t.Helper()
	if got := impl.StuffSplit(amounts, n); !slices.Equal(got, want) {
		t.Errorf("StuffSplit of %v and %d = %v; want %v", amounts, n, got, want)
	}
}

func sumOf(amounts []int) int {
	sum := 0
	for _, amount := range amounts {
		sum += amount
	}
	return sum
}

func TestSplitOfOrdinaryAmounts(t *testing.T) {
	checkSplit(t, []int{20, 11}, 10, 6, 4)
	checkSplit(t, []int{11, 20}, 10, 4, 6)
	checkSplit(t, []int{7, 2, 1}, 5, 4, 1, 0)
	checkSplit(t, []int{7, 2, 1}, 4, 3, 1, 0)
	checkSplit(t, []int{7, 2, 1}, 9, 6, 2, 1)
	checkSplit(t, []int{600, 300, 100}, 10, 6, 3, 1)
	checkSplit(t, []int{600, 300, 100}, 11, 7, 3, 1)
	checkSplit(t, []int{600, 300, 100}, 12, 7, 4, 1)
	checkSplit(t, []int{5}, 3, 3)
	checkSplit(t, []int{1}, 1, 1)
}

// The last one that is missing goes where the remainder is greatest, wherever that stands.
func TestSplitByTheGreatestRemainder(t *testing.T) {
	checkSplit(t, []int{1, 2, 3, 4, 5}, 1, 0, 0, 0, 0, 1)
	checkSplit(t, []int{5, 4, 3, 2, 1}, 1, 1, 0, 0, 0, 0)
	checkSplit(t, []int{1, 2, 5, 4, 3}, 1, 0, 0, 1, 0, 0)
	checkSplit(t, []int{1, 2, 3, 4, 5}, 2, 0, 0, 0, 1, 1)
	checkSplit(t, []int{1, 2, 3, 4, 5}, 3, 0, 0, 1, 1, 1)
	checkSplit(t, []int{3, 3, 4}, 5, 2, 1, 2)
	checkSplit(t, []int{4, 3, 3}, 5, 2, 2, 1)
	checkSplit(t, []int{9, 1, 1}, 10, 8, 1, 1)
	// The remainder counts, and not the amount: of 3 times 10 by 15 nothing is left over.
	checkSplit(t, []int{10, 4, 1}, 3, 2, 1, 0)
}

func TestSplitOfRemaindersThatAreTheSame(t *testing.T) {
	checkSplit(t, []int{1, 1, 1}, 1, 1, 0, 0)
	checkSplit(t, []int{1, 1, 1}, 2, 1, 1, 0)
	checkSplit(t, []int{1, 2, 1}, 2, 1, 1, 0)
	checkSplit(t, []int{1, 2, 1}, 3, 1, 1, 1)
	checkSplit(t, []int{2, 1, 2, 1, 2}, 1, 1, 0, 0, 0, 0)
	checkSplit(t, []int{2, 1, 2, 1, 2}, 2, 1, 0, 1, 0, 0)
	checkSplit(t, []int{1, 2, 1, 2, 1}, 1, 0, 1, 0, 0, 0)
	checkSplit(t, []int{1, 3, 1, 3}, 1, 0, 1, 0, 0)
	checkSplit(t, []int{1, 3, 3, 1}, 2, 0, 1, 1, 0)
	for most := 1; most <= impl.StuffMaxLots; most++ {
		for _, amount := range []int{1, 2, 7, impl.StuffMaxCap} {
			amounts := slices.Repeat([]int{amount}, most)
			for n := range most*amount + 1 {
				want := slices.Repeat([]int{n / most}, most)
				for i := range n % most {
					want[i]++
				}
				checkSplit(t, amounts, n, want...)
			}
		}
	}
}

func TestSplitOfAmountsOfNothing(t *testing.T) {
	checkSplit(t, []int{5, 0, 5}, 9, 5, 0, 4)
	checkSplit(t, []int{0, 3}, 2, 0, 2)
	checkSplit(t, []int{3, 0}, 1, 1, 0)
	checkSplit(t, []int{0, 1, 1, 0}, 1, 0, 1, 0, 0)
	checkSplit(t, []int{0, 0, 0, 1}, 1, 0, 0, 0, 1)
	checkSplit(t, []int{0, 0, 0, 1}, 0, 0, 0, 0, 0)
}

func TestSplitOfNothingAtAll(t *testing.T) {
	checkSplit(t, nil, 0)
	checkSplit(t, []int{}, 0)
	for most := range impl.StuffMaxLots + 1 {
		zeros := make([]int, most)
		checkSplit(t, zeros, 0, zeros...)
		for _, n := range []int{1, -1, 2, math.MaxInt, math.MinInt} {
			checkSplit(t, zeros, n)
		}
	}
}

func TestSplitOfNoneAndAllAndMore(t *testing.T) {
	for _, amounts := range [][]int{{1}, {7, 2, 1}, {5, 0, 5}, {0, 3}, {1000, 1000}, {1, 1000, 999}, slices.Repeat([]int{1000}, impl.StuffMaxLots)} {
		sum := sumOf(amounts)
		checkSplit(t, amounts, 0, make([]int, len(amounts))...)
		checkSplit(t, amounts, sum, amounts...)
		for _, n := range []int{sum + 1, -1, -sum, math.MaxInt, math.MinInt} {
			checkSplit(t, amounts, n)
		}
	}
}

func TestSplitOfAsManyAmountsAsMayBe(t *testing.T) {
	amounts := make([]int, impl.StuffMaxLots)
	for i := range amounts {
		amounts[i] = i + 1
	}
	checkSplit(t, amounts, sumOf(amounts), amounts...)
	checkSplit(t, amounts, 2, 0, 0, 0, 0, 0, 0, 0, 0, 0, 0, 0, 0, 0, 0, 1, 1)
	for _, more := range []int{0, 1, impl.StuffMaxCap} {
		longer := append(slices.Clone(amounts), more)
		for _, n := range []int{0, 1, sumOf(amounts), sumOf(longer)} {
			checkSplit(t, longer, n)
		}
	}
	checkSplit(t, make([]int, impl.StuffMaxLots+1), 0)
	checkSplit(t, make([]int, 100000), 0)
	checkSplit(t, slices.Repeat([]int{1}, 100000), 1)
}

func TestSplitOfAmountsAtTheirEnds(t *testing.T) {
	for _, n := range []int{0, 1, 3} {
		for _, wrong := range []int{-1, impl.StuffMaxCap + 1, math.MaxInt, math.MinInt, math.MaxInt - 3, -impl.StuffMaxCap} {
			checkSplit(t, []int{wrong}, n)
			for at := range 3 {
				amounts := []int{2, 5, 4}
				amounts[at] = wrong
				checkSplit(t, amounts, n)
			}
		}
	}
	checkSplit(t, []int{math.MaxInt, math.MaxInt, 4}, 2)
	checkSplit(t, []int{math.MaxInt, math.MinInt, 3}, 2)
	checkSplit(t, []int{-1, 1}, 0)
	checkSplit(t, []int{impl.StuffMaxCap}, impl.StuffMaxCap, impl.StuffMaxCap)
	checkSplit(t, []int{impl.StuffMaxCap}, 1, 1)
	checkSplit(t, []int{impl.StuffMaxCap, 1}, impl.StuffMaxCap, 999, 1)
	checkSplit(t, []int{impl.StuffMaxCap, 0}, 999, 999, 0)
}

// splitByDefinition reads the chapter a second time: each that is missing goes on a walk of its own through all amounts.
func splitByDefinition(amounts []int, n int) []int {
	sum := 0
	for _, amount := range amounts {
		if amount < 0 || amount > 1000 {
			return nil
		}
		sum += amount
	}
	if len(amounts) > 16 || n < 0 || n > sum {
		return nil
	}
	shares, left := make([]int, len(amounts)), make([]int, len(amounts))
	missing := n
	for i, amount := range amounts {
		for sum > 0 && (shares[i]+1)*sum <= n*amount {
			shares[i]++
		}
		left[i] = n*amount - sum*shares[i]
		missing -= shares[i]
	}
	for ; missing > 0; missing-- {
		greatest := slices.Index(left, slices.Max(left))
		shares[greatest]++
		left[greatest] = -1
	}
	return shares
}

// eachAmounts tells all lists of at most so many amounts up to some.
func eachAmounts(many, upTo int, tell func(amounts []int)) {
	var longer func(amounts []int)
	longer = func(amounts []int) {
		tell(amounts)
		for amount := 0; len(amounts) < many && amount <= upTo; amount++ {
			longer(append(slices.Clone(amounts), amount))
		}
	}
	longer(nil)
}

// someAmounts is long lists of amounts that follow no rule.
func someAmounts() [][]int {
	dice := rand.New(rand.NewSource(11))
	var all [][]int
	for range 300 {
		amounts := make([]int, 1+dice.Intn(impl.StuffMaxLots))
		upTo := []int{1, 3, 20, impl.StuffMaxCap}[dice.Intn(4)]
		for i := range amounts {
			amounts[i] = dice.Intn(upTo + 1)
		}
		all = append(all, amounts)
	}
	return all
}

func TestSplitOfAllShortLists(t *testing.T) {
	check := func(amounts []int) {
		for n := -1; n <= sumOf(amounts)+1; n++ {
			checkSplit(t, amounts, n, splitByDefinition(amounts, n)...)
		}
	}
	eachAmounts(3, 9, check)
	eachAmounts(4, 5, check)
	eachAmounts(6, 2, check)
	eachAmounts(9, 1, check)
}

func TestSplitOfLongLists(t *testing.T) {
	for _, amounts := range someAmounts() {
		sum := sumOf(amounts)
		for n := 0; n <= sum; n += 1 + sum/97 {
			checkSplit(t, amounts, n, splitByDefinition(amounts, n)...)
		}
	}
}

// checkShares is promise 12, of one call.
func checkShares(t *testing.T, amounts []int, n int) {
	t.Helper()
	shares, sum := impl.StuffSplit(amounts, n), sumOf(amounts)
	if len(shares) != len(amounts) || sumOf(shares) != n {
		t.Fatalf("StuffSplit of %v and %d = %v", amounts, n, shares)
	}
	for i, share := range shares {
		away := share*sum - n*amounts[i]
		if share < 0 || share > amounts[i] || sum > 0 && (away >= sum || -away >= sum) {
			t.Errorf("StuffSplit of %v and %d = %v: at %d", amounts, n, shares, i)
		}
	}
	if n == sum && !slices.Equal(shares, amounts) {
		t.Errorf("StuffSplit of %v, of all, = %v", amounts, shares)
	}
}

// Promise 12.
func TestSplitSharesOutJustSoMuch(t *testing.T) {
	eachAmounts(4, 6, func(amounts []int) {
		for n := range sumOf(amounts) + 1 {
			checkShares(t, amounts, n)
		}
	})
	for _, amounts := range append(someAmounts(), []int{1, 1000}, []int{999, 1000, 1}, slices.Repeat([]int{1000}, 16), append(slices.Repeat([]int{1}, 15), 1000)) {
		for n := range sumOf(amounts) + 1 {
			checkShares(t, amounts, n)
		}
	}
}

func TestSharesAreNewMemory(t *testing.T) {
	for _, from := range [][]int{{1}, {7, 2, 1}, {0, 0}, {5, 0, 5}, slices.Repeat([]int{3}, 16)} {
		for _, n := range []int{0, 1, sumOf(from)} {
			amounts := roomy(from, 77)
			argument := slices.Clone(amounts[:cap(amounts)])
			first, second := impl.StuffSplit(amounts, n), impl.StuffSplit(amounts, n)
			want := slices.Clone(second)
			first = first[:cap(first)]
			for i := range first {
				first[i] = -5
			}
			if !slices.Equal(second, want) {
				t.Errorf("two answers of %v and %d share memory", from, n)
			}
			if !slices.Equal(amounts[:cap(amounts)], argument) {
				t.Errorf("an answer of %v and %d shares memory with its argument: %v", from, n, amounts[:cap(amounts)])
			}
			for i := range amounts {
				amounts[i] = -5
			}
			if !slices.Equal(second, want) {
				t.Errorf("the answer of %v and %d goes with its argument", from, n)
			}
		}
	}
}

func TestSplitLeavesItsArgument(t *testing.T) {
	for _, from := range append(someAmounts(), nil, []int{3, -1}, []int{1001, 5}, make([]int, 17), []int{0, 0}) {
		amounts := roomy(from, 77)
		want := slices.Clone(amounts[:cap(amounts)])
		for _, n := range []int{-1, 0, 1, sumOf(from) / 2, sumOf(from), sumOf(from) + 1} {
			impl.StuffSplit(amounts, n)
		}
		if !slices.Equal(amounts[:cap(amounts)], want) {
			t.Errorf("%v became %v", want, amounts[:cap(amounts)])
		}
	}
}

// What one call was given must not be seen in the next one, nor in one beside it.
func TestSplitKeepsNothing(t *testing.T) {
	var callers sync.WaitGroup
	for range 8 {
		callers.Go(func() {
			for range 100 {
				checkSplit(t, []int{20, 11}, 10, 6, 4)
				checkSplit(t, []int{3, -1}, 1)
				checkSplit(t, []int{1, 1, 1}, 2, 1, 1, 0)
				checkSplit(t, slices.Repeat([]int{1}, 17), 2)
				checkSplit(t, []int{0, 0}, 0, 0, 0)
				checkSplit(t, []int{11, 20}, 10, 4, 6)
			}
		})
	}
	callers.Wait()
}
