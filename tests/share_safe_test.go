package tests

import (
	"fmt"
	"math/rand"
	"reflect"
	"slices"
	"strconv"
	"strings"
	"sync"
	"testing"

	"loop.example/malthouse/impl"
)

func checkFits(t *testing.T, what string, b impl.ShareBook, order []string, want bool) {
	t.Helper()
	if got := impl.ShareFits(b, order); got != want {
		t.Errorf("%s: ShareFits of %q = %v; want %v: %+v", what, order, got, want, b)
	}
}

// checkSafe says that all can end in this order, and that it is the one that is told.
func checkSafe(t *testing.T, what string, b impl.ShareBook, want ...string) {
	t.Helper()
	got, ok := impl.ShareOrder(b)
	if !ok || !slices.Equal(got, want) || !impl.ShareSafe(b) {
		t.Errorf("%s: ShareOrder = %q, %v, ShareSafe = %v; want %q: %+v", what, got, ok, impl.ShareSafe(b), want, b)
	}
	checkFits(t, what, b, want, true)
}

func checkNotSafe(t *testing.T, what string, b impl.ShareBook) {
	t.Helper()
	if got, ok := impl.ShareOrder(b); ok || len(got) > 0 || impl.ShareSafe(b) {
		t.Errorf("%s: ShareOrder = %q, %v, ShareSafe = %v: %+v", what, got, ok, impl.ShareSafe(b), b)
	}
}

func namesOfBatches(b impl.ShareBook) []string {
	var names []string
	for _, one := range b.Batches {
		names = append(names, one.Name)
	}
	return names
}

// ordersOf is all orders of some names, ascending if they do.
func ordersOf(names []string) [][]string {
	if len(names) == 0 {
		return [][]string{nil}
	}
	var all [][]string
	for i, name := range names {
		for _, rest := range ordersOf(slices.Delete(slices.Clone(names), i, i+1)) {
			all = append(all, append([]string{name}, rest...))
		}
	}
	return all
}

// canByDefinition holds what a batch needs against what each of the others has.
func canByDefinition(b impl.ShareBook, name string, gone []string) bool {
	at := slices.Index(namesOfBatches(b), name)
	for i, other := range b.Batches {
		if i == at || slices.Contains(gone, other.Name) {
			continue
		}
		for _, thing := range other.Has {
			if slices.Contains(b.Batches[at].Needs, thing) {
				return false
			}
		}
	}
	return true
}

// fitsByDefinition reads the chapter a second time.
func fitsByDefinition(b impl.ShareBook, order []string) bool {
	sorted := slices.Clone(order)
	slices.Sort(sorted)
	if !shareByDefinition(b) || !slices.Equal(sorted, namesOfBatches(b)) {
		return false
	}
	for i, name := range order {
		if !canByDefinition(b, name, order[:i]) {
			return false
		}
	}
	return true
}

// orderByDefinition is how far those who can go get, always the first of them, and whether all do.
func orderByDefinition(b impl.ShareBook) (gone []string, all bool) {
	if !shareByDefinition(b) {
		return nil, false
	}
	names := namesOfBatches(b)
	for len(gone) < len(names) {
		at := slices.IndexFunc(names, func(name string) bool {
			return !slices.Contains(gone, name) && canByDefinition(b, name, gone)
		})
		if at < 0 {
			return gone, false
		}
		gone = append(gone, names[at])
	}
	return gone, true
}

func checkOrderByReading(t *testing.T, what string, b impl.ShareBook) (gone []string, all bool) {
	t.Helper()
	gone, all = orderByDefinition(b)
	if all {
		checkSafe(t, what, b, gone...)
	} else {
		checkNotSafe(t, what, b)
	}
	return gone, all
}

// checkPromise41 asks all orders whether they fit: one does just if the book is safe. As nobody who can go has to wait later, always the first that can goes in the first of those that fit.
func checkPromise41(t *testing.T, b impl.ShareBook, orders [][]string) {
	t.Helper()
	order, ok := impl.ShareOrder(b)
	first := slices.IndexFunc(orders, func(order []string) bool { return impl.ShareFits(b, order) })
	if isSafe := impl.ShareSafe(b); isSafe != ok || isSafe != (first >= 0) {
		t.Errorf("ShareSafe = %v, ShareOrder = %q, %v, and order %d fits: %+v", isSafe, order, ok, first, b)
		return
	}
	if ok && (!impl.ShareFits(b, order) || !slices.Equal(order, orders[first])) {
		t.Errorf("ShareOrder = %q, and %q fits: %+v", order, orders[first], b)
	}
	if !ok && len(order) > 0 {
		t.Errorf("ShareOrder = %q, and no order fits: %+v", order, b)
	}
}

func TestOrdersThatFit(t *testing.T) {
	b := sharing("keg tun vat", "a keg! tun", "b tun! vat", "c keg vat")
	for order, want := range map[string]bool{"b a c": true, "a b c": false, "a c b": false, "b c a": false, "c a b": false, "c b a": false} {
		checkFits(t, "three", b, strings.Fields(order), want)
	}
	row := sharing("p q r s t", "a p! q", "b q! r", "c r! s", "d s! t", "e t!")
	for _, order := range ordersOf(namesOfBatches(row)) {
		checkFits(t, "a row", row, order, strings.Join(order, "") == "edcba")
	}
	back := sharing("p q r s t", "a p!", "b p q!", "c q r!", "d r s!", "e s t!")
	for _, order := range ordersOf(namesOfBatches(back)) {
		checkFits(t, "a row back", back, order, slices.IsSorted(order))
	}
	for _, order := range ordersOf(strings.Fields("a b c d e")) {
		checkFits(t, "nobody needs anything", sharing("p q", "a", "b", "c", "d", "e"), order, true)
		checkFits(t, "nobody has anything", sharing("p q", "a p q", "b p q", "c p", "d q", "e p"), order, true)
		checkFits(t, "all have all they need", sharing("p q r s t", "a p!", "b q!", "c r!", "d s!", "e t!"), order, true)
		checkFits(t, "one has what all need", sharing("p", "a p", "b p", "c p!", "d p", "e p"), order, order[0] == "c")
		checkFits(t, "a ring", sharing("p q r s t", "a p! q", "b q! r", "c r! s", "d s! t", "e p t!"), order, false)
		checkFits(t, "c waits for d", sharing("p q", "a", "b p!", "c q", "d q!", "e"), order, slices.Index(order, "d") < slices.Index(order, "c"))
	}
}

func TestOrdersOfSomeBooks(t *testing.T) {
	for what, b := range someShares() {
		for _, order := range ordersOf(namesOfBatches(b)) {
			checkFits(t, what, b, order, fitsByDefinition(b, order))
		}
	}
}

// wrongOrders is lists of names that have not each of some once.
func wrongOrders(order []string) [][]string {
	all := [][]string{append(slices.Clone(order), "none"), append([]string{"none"}, order...), append(slices.Clone(order), "")}
	// Of nobody the empty order is one.
	if len(order) > 0 {
		all = append(all, nil, []string{}, slices.Repeat(order, 2))
	}
	for i, name := range order {
		all = append(all, slices.Delete(slices.Clone(order), i, i+1), slices.Insert(slices.Clone(order), i, name), append(slices.Clone(order), name), append([]string{name}, order...))
		for _, other := range append(slices.Clone(order), "none", "", "A", "keg", name+" ", name+"\x00", strings.ToUpper(name)) {
			if other != name {
				changed := slices.Clone(order)
				changed[i] = other
				all = append(all, changed)
			}
		}
	}
	return all
}

func TestOrdersThatAreNone(t *testing.T) {
	for what, b := range someShares() {
		names := namesOfBatches(b)
		if order, ok := impl.ShareOrder(b); ok {
			names = order
			checkFits(t, what, b, names, true)
		}
		for _, order := range wrongOrders(names) {
			checkFits(t, what, b, order, false)
		}
	}
	for _, order := range [][]string{{"b", "a"}, {"b"}, {}, {"b", "a", "c", "c"}, {"b", "a", "c", "d"}, {"b", "b", "a", "c"}, {"b", "b", "c"}, {"b", "a", "a"}, {"b", "a", "d"}, {"d", "a", "c"}, {"b", "a", ""}, {"", "b", "a", "c"}, {"b", "a", "C"}, {"b a c"}, {"b", "a", "keg"}} {
		checkFits(t, "small", smallShare(), order, false)
	}
	checkFits(t, "small", smallShare(), []string{"b", "a", "c"}, true)
}

func TestNobodyToOrder(t *testing.T) {
	for what, b := range map[string]impl.ShareBook{"nothing": {}, "empty lists": {Things: []string{}, Batches: []impl.ShareBatch{}}, "things alone": sharing("p q r"), "as many as there can be": {Things: numbered("t", 8)}} {
		checkSafe(t, what, b)
		checkFits(t, what, b, nil, true)
		checkFits(t, what, b, []string{}, true)
		for _, order := range [][]string{{""}, {"a"}, {"p"}, {"a", "b"}} {
			checkFits(t, what, b, order, false)
		}
	}
}

func TestOrdersOfWhatIsNotOk(t *testing.T) {
	for i, b := range append(spoiltShares(), impl.ShareBook{Things: []string{"A"}}, impl.ShareBook{Things: numbered("t", 9)}) {
		what := strconv.Itoa(i)
		checkNotSafe(t, what, b)
		names := namesOfBatches(b)
		checkFits(t, what, b, nil, false)
		if len(names) < 5 {
			for _, order := range append(ordersOf(names), []string{"b", "a", "c"}) {
				checkFits(t, what, b, order, false)
			}
		}
	}
}

func TestOrdersThatAreTold(t *testing.T) {
	for _, one := range []struct {
		want string
		book impl.ShareBook
	}{
		{"a", sharing("", "a")},
		{"a", sharing("p", "a p!")},
		{"a", sharing("p q", "a p q!")},
		{"a b c d e", sharing("p q", "a", "b", "c", "d", "e")},
		{"a b c d e", sharing("p q", "a p q", "b p q", "c p q", "d p q", "e p q")},
		{"a b c d e", sharing("p q r s t", "a p!", "b p q!", "c q r!", "d r s!", "e s t!")},
		{"e d c b a", sharing("p q r s t", "a p! q", "b q! r", "c r! s", "d s! t", "e t!")},
		{"b a c", smallShare()},
		{"b a", sharing("p", "a p", "b p!")},
		{"a b", sharing("p", "a p!", "b p")},
		// Behind each that goes it begins anew with the first: b lets a go, which is ahead of c.
		{"b a c", sharing("p q", "a p", "b p!", "c q!")},
		{"c a b d e", sharing("p", "a p", "b p", "c p!", "d p", "e p")},
		{"b d a c e", sharing("p q", "a p q", "b p!", "c q", "d p q!", "e")},
		{"a c b e d", sharing("p q r", "a", "b p", "c p!", "d q! r", "e r!")},
		{"d c b a e", sharing("p q r", "a p", "b p! q", "c q! r", "d r!", "e")},
		{"e a b c d", sharing("p q", "a p", "b p q", "c q", "d p q", "e p! q!")},
		// What it has itself does not keep it from going.
		{"a b", sharing("p q", "a p! q!", "b p q")},
		{"b a", sharing("p q", "a p! q", "b q!")},
		{"c a b", sharing("a b", "a a! b", "b a", "c b!")},
	} {
		checkSafe(t, one.want, one.book, strings.Fields(one.want)...)
	}
	checkSafe(t, "all of all", allOfAll(), "c", "a", "b", "d", "e")
	for at := range 8 {
		// The thing of each place may be what one waits for.
		things := numbered("t", 8)
		checkSafe(t, "place "+strconv.Itoa(at), sharing(strings.Join(things, " "), "a "+things[at], "b "+things[at]+"!"), "b", "a")
	}
}

func TestBooksThatAreNotSafe(t *testing.T) {
	for what, b := range map[string]impl.ShareBook{
		"two":                       sharing("p q", "a p! q", "b p q!"),
		"three":                     sharing("p q r", "a p! q", "b q! r", "c p r!"),
		"three, the other way":      sharing("p q r", "a p! r", "b p q!", "c q r!"),
		"five":                      sharing("p q r s t", "a p! q", "b q! r", "c r! s", "d s! t", "e p t!"),
		"full":                      fullShare(),
		"the last two":              sharing("p q", "a", "b", "c", "d p! q", "e p q!"),
		"the first two":             sharing("p q", "a p! q", "b p q!", "c", "d", "e"),
		"the first and the last":    sharing("p q", "a p! q", "b", "c", "d", "e p q!"),
		"one waits for a ring":      sharing("p q r", "a p! q", "b p q!", "c p r!"),
		"a ring, and another one":   sharing("p q r s", "a p! q", "b p q!", "c r! s", "d r s!"),
		"some can go, and then not": sharing("p q r s", "a p", "b q! r", "c q r!", "d s!", "e s"),
		"one goes in vain":          sharing("p q r", "a p! q", "b p q! r", "c r!"),
		"first and last":            sharing("p q r s t u v w", "a p! w", "b p w!"),
	} {
		checkNotSafe(t, what, b)
		for _, order := range ordersOf(namesOfBatches(b)) {
			checkFits(t, what, b, order, false)
		}
	}
	// With one need less, or when one of the ring is gone, they are safe.
	checkSafe(t, "a needs less", sharing("p q r s t", "a p!", "b q! r", "c r! s", "d s! t", "e p t!"), "a", "e", "d", "c", "b")
	checkSafe(t, "e needs less", sharing("p q r s t", "a p! q", "b q! r", "c r! s", "d s! t", "e t!"), "e", "d", "c", "b", "a")
	checkSafe(t, "c has less", sharing("p q r s t", "a p! q", "b q! r", "c r s", "d s! t", "e p t!"), "b", "a", "e", "d", "c")
	checkSafe(t, "b is gone", sharing("p q r s t", "a p! q", "c r! s", "d s! t", "e p t!"), "a", "e", "d", "c")
}

func TestOrdersByReading(t *testing.T) {
	for what, b := range someShares() {
		checkOrderByReading(t, what, b)
	}
	for what, from := range someShares() {
		eachWithOneChange(from, textsOfAll(from), func(b impl.ShareBook) { checkOrderByReading(t, what, b) })
	}
}

// eachShare tells all books of so many batches and things: of each thing each batch needs it or not, and one of those who do may have it.
func eachShare(batches, things int, tell func(b impl.ShareBook)) {
	var give func(b impl.ShareBook, at int)
	give = func(b impl.ShareBook, at int) {
		if at == things {
			tell(b)
			return
		}
		for who := range 1 << batches {
			for had := -1; had < batches; had++ {
				if had >= 0 && who>>had&1 == 0 {
					continue
				}
				next := impl.ShareBook{Things: b.Things, Batches: slices.Clone(b.Batches)}
				for i := range next.Batches {
					one := &next.Batches[i]
					if who>>i&1 == 1 {
						one.Needs = append(slices.Clip(one.Needs), b.Things[at])
					}
					if had == i {
						one.Has = append(slices.Clip(one.Has), b.Things[at])
					}
				}
				give(next, at+1)
			}
		}
	}
	first := impl.ShareBook{Things: numbered("t", things)}
	for _, name := range numbered("b", batches) {
		first.Batches = append(first.Batches, impl.ShareBatch{Name: name})
	}
	give(first, 0)
}

// Promise 41.
func TestAllSmallBooksAreSafeOrNot(t *testing.T) {
	for _, one := range []struct{ batches, things, books int }{{0, 3, 1}, {1, 3, 27}, {2, 3, 512}, {3, 3, 8000}, {2, 5, 32768}, {3, 4, 160000}, {4, 3, 110592}, {5, 2, 12544}, {5, 1, 112}, {3, 0, 1}} {
		many, orders := 0, ordersOf(numbered("b", one.batches))
		eachShare(one.batches, one.things, func(b impl.ShareBook) {
			checkPromise41(t, b, orders)
			checkOrderByReading(t, "small", b)
			many++
		})
		if many != one.books {
			t.Errorf("%d books of %d batches and %d things", many, one.batches, one.things)
		}
	}
}

// Promise 41.
func TestDrawnBooksAreSafeOrNot(t *testing.T) {
	dice := rand.New(rand.NewSource(41))
	told := map[string]int{}
	for range 12000 {
		b := drawnShare(dice, 7+dice.Intn(4))
		checkPromise41(t, b, ordersOf(namesOfBatches(b)))
		gone, all := checkOrderByReading(t, "drawn", b)
		switch {
		case all && len(gone) >= 4 && slices.IsSorted(gone):
			told["in the order of their names"]++
		case all && len(gone) >= 4:
			told["in another order"]++
		case !all && len(gone) == 0 && shareByDefinition(b):
			told["nobody can go"]++
		case !all && len(gone) > 0:
			told["some can go"]++
		}
	}
	if len(told) != 4 || slices.Min([]int{told["in the order of their names"], told["in another order"], told["nobody can go"], told["some can go"]}) < 300 {
		t.Errorf("of the drawn books there are %v", told)
	}
}

// Of each drawn book all orders, and lists that are none, are as they read.
func TestDrawnOrdersByReading(t *testing.T) {
	dice := rand.New(rand.NewSource(52))
	fit, not := 0, 0
	for range 700 {
		b := drawnShare(dice, 2+dice.Intn(7))
		for _, order := range ordersOf(namesOfBatches(b)) {
			want := fitsByDefinition(b, order)
			checkFits(t, "drawn", b, order, want)
			fit += choose(want, 1, 0)
			not += choose(want, 0, 1)
		}
		eachOf(append(namesOfBatches(b), "none"), choose(len(b.Batches) < 4, 4, 3), func(order []string) {
			checkFits(t, "drawn", b, order, fitsByDefinition(b, order))
		})
	}
	if fit < 2000 || not < 2000 {
		t.Errorf("%d orders fit, %d do not", fit, not)
	}
}

type shareAndOrder struct {
	Book  impl.ShareBook
	Order []string
}

// sharesAndOrders is books that are safe, that are not, and that are not ok, each with an order.
func sharesAndOrders() []shareAndOrder {
	var all []shareAndOrder
	add := func(b impl.ShareBook) {
		order, ok := impl.ShareOrder(b)
		all = append(all, shareAndOrder{b, choose(ok, order, namesOfBatches(b))}, shareAndOrder{b, []string{"a", "b"}})
	}
	for _, b := range someShares() {
		add(b)
	}
	for _, b := range spoiltShares() {
		add(b)
	}
	return all
}

// toldOfShare is all that is told of a book and an order.
type toldOfShare struct {
	Order          []string
	Ok, Fits, Safe bool
}

func toldOfShareBy(one shareAndOrder) toldOfShare {
	order, ok := impl.ShareOrder(one.Book)
	return toldOfShare{order, ok, impl.ShareFits(one.Book, one.Order), impl.ShareSafe(one.Book)}
}

func TestOrdersAreNotWrittenInto(t *testing.T) {
	for i, asked := range sharesAndOrders() {
		one := withRoom(asked)
		was := withWhatIsBehind(one)
		first := toldOfShareBy(one)
		if again := toldOfShareBy(one); !reflect.DeepEqual(again, first) || !reflect.DeepEqual(toldOfShareBy(asked), first) {
			t.Errorf("%d: it was %+v and is %+v", i, first, again)
		}
		if !reflect.DeepEqual(withWhatIsBehind(one), was) {
			t.Errorf("%d: what was asked became %+v", i, withWhatIsBehind(one))
		}
	}
}

func TestOrdersAreNewMemory(t *testing.T) {
	for i, asked := range sharesAndOrders() {
		what := strconv.Itoa(i)
		one := withRoom(asked)
		first, second := toldOfShareBy(one), toldOfShareBy(one)
		checkOwnMemory(t, what, first, one)
		checkOwnMemory(t, what, second, one, first)
		checkOwnLists(t, what, first, one)
		checkOwnLists(t, what, second, one, first)
		want := fmt.Sprint(second)
		spoilTexts(first.Order)
		if got, again := fmt.Sprint(second), fmt.Sprint(toldOfShareBy(one)); got != want || again != want {
			t.Errorf("%d: behind an answer that was written into it is %s, and then %s; want %s", i, got, again, want)
		}
	}
}

func TestOrdersOfVeryLongLists(t *testing.T) {
	long := 100000
	for _, order := range [][]string{slices.Repeat([]string{"b", "a", "c"}, long), make([]string, long), {"b", "a", strings.Repeat("c", 1<<20)}} {
		checkFits(t, "a long order", smallShare(), order, false)
		checkFits(t, "a long order of nobody", impl.ShareBook{}, order, false)
	}
	for what, b := range map[string]impl.ShareBook{"batches": {Batches: make([]impl.ShareBatch, long)}, "things": {Things: make([]string, long)}} {
		checkNotSafe(t, what, b)
		checkFits(t, what, b, make([]string, long), false)
	}
}

// What one call was given must not be seen in the next one, nor in one beside it.
func TestOrdersKeepNothing(t *testing.T) {
	all, wrong := someShares(), spoiltShares()
	var callers sync.WaitGroup
	for range 8 {
		callers.Go(func() {
			i := 0
			for what, b := range all {
				checkOrderByReading(t, what, b)
				checkNotSafe(t, "wrong", wrong[i%len(wrong)])
				names := namesOfBatches(b)
				checkFits(t, what, b, names, fitsByDefinition(b, names))
				checkFits(t, "wrong", wrong[(i+5)%len(wrong)], []string{"b", "a", "c"}, false)
				slices.Reverse(names)
				checkFits(t, what, b, names, fitsByDefinition(b, names))
				i += 3
			}
		})
	}
	callers.Wait()
}
