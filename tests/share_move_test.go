package tests

import (
	"fmt"
	"math/rand"
	"reflect"
	"runtime"
	"slices"
	"strconv"
	"strings"
	"sync"
	"testing"

	"loop.example/malthouse/impl"
)

// checkWhoMoves asks for those who can have all they need; a book in which nobody can is stuck, if somebody is there.
func checkWhoMoves(t *testing.T, what string, b impl.ShareBook, want ...string) {
	t.Helper()
	if got := impl.ShareMoves(b); !slices.Equal(got, want) {
		t.Errorf("%s: ShareMoves = %q; want %q: %+v", what, got, want, b)
	}
	wanted := len(b.Batches) > 0 && len(want) == 0
	if got := impl.ShareStuck(b); got != wanted {
		t.Errorf("%s: ShareStuck = %v; want %v: %+v", what, got, wanted, b)
	}
}

func checkWaits(t *testing.T, what string, b impl.ShareBook, name string, want ...string) {
	t.Helper()
	if got := impl.ShareWaits(b, name); !slices.Equal(got, want) {
		t.Errorf("%s: ShareWaits of %q = %q; want %q: %+v", what, name, got, want, b)
	}
}

// checkAllWait asks on whom the batches of a book wait: "a: b c" is a, who waits on b and c.
func checkAllWait(t *testing.T, what string, b impl.ShareBook, all ...string) {
	t.Helper()
	if len(all) != len(b.Batches) {
		t.Errorf("%s: of %d batches %q are told", what, len(b.Batches), all)
	}
	for _, one := range all {
		name, others, _ := strings.Cut(one, ":")
		checkWaits(t, what, b, name, strings.Fields(others)...)
	}
}

// checkNothingOfMoves says that nothing is told of a book that is not ok, and that it is not stuck.
func checkNothingOfMoves(t *testing.T, what string, b impl.ShareBook, names ...string) {
	t.Helper()
	if got, isStuck := impl.ShareMoves(b), impl.ShareStuck(b); len(got) > 0 || isStuck {
		t.Errorf("%s: ShareMoves = %q, ShareStuck = %v: %+v", what, got, isStuck, b)
	}
	for _, name := range names {
		checkWaits(t, what, b, name)
	}
}

func TestWhoMoves(t *testing.T) {
	for _, one := range []struct {
		what, want string
		book       impl.ShareBook
	}{
		{"it needs nothing", "a", sharing("", "a")},
		{"it needs nothing of what there is", "a", sharing("p q", "a")},
		{"it needs nothing, and others have all", "a b c", sharing("p q", "a", "b p!", "c q!")},
		{"it has all it needs", "a", sharing("p", "a p!")},
		{"it has all it needs, and others need it", "b", sharing("p", "a p", "b p!", "c p")},
		{"it needs what is free", "a", sharing("p q", "a p q")},
		{"it has some, and the rest is free", "a", sharing("p q r", "a p! q r!")},
		{"all need what is free", "a b c d e", sharing("p q", "a p q", "b p q", "c p", "d q", "e p q")},
		{"all have all they need", "a b c d e", sharing("p q r s t", "a p!", "b q!", "c r!", "d s!", "e t!")},
		{"another one has it", "b", sharing("p", "a p", "b p!")},
		{"another one has it, behind", "a", sharing("p", "a p!", "b p")},
		{"another one has one of three", "b", sharing("p q r", "a p q r", "b q!")},
		{"it has two, and another one the third", "b", sharing("p q r", "a p! q! r", "b r!")},
		{"what it has itself does not hinder it", "a b", sharing("p q", "a p! q!", "b")},
		{"the first and the last", "a e", sharing("p q", "a p!", "b p", "c p q", "d q", "e q!")},
		{"those between", "b d", sharing("p q", "a p", "b p!", "c p q", "d q!", "e q")},
		{"one can, two others wait for each other", "c", sharing("p q", "a p! q", "b p q!", "c")},
		{"one waits for one that waits", "c", sharing("p q", "a p! q", "b p", "c q!")},
		{"small", "b", smallShare()},
		{"the row", "e", sharing("p q r s t", "a p! q", "b q! r", "c r! s", "d s! t", "e t!")},
		{"the row back", "a", sharing("p q r s t", "a p!", "b p q!", "c q r!", "d r s!", "e s t!")},
		{"one has all of all", "c", allOfAll()},
		{"a ring", "", sharing("p q r", "a p! q", "b q! r", "c p r!")},
		{"as much as can be", "", fullShare()},
		{"called like things", "", sharing("a b", "a a! b", "b a b!")},
		{"called like things, with their own", "a b", sharing("a b", "a a!", "b b!")},
	} {
		checkWhoMoves(t, one.what, one.book, strings.Fields(one.want)...)
	}
}

// movers is a book of so many batches of which just those of the bits can have all they need: the others need what the first of these has, or wait for each other in a ring.
func movers(many, bits int) impl.ShareBook {
	b := impl.ShareBook{Things: numbered("t", many)}
	can := -1
	for i, name := range numbered("b", many) {
		b.Batches = append(b.Batches, impl.ShareBatch{Name: name})
		if can < 0 && bits>>i&1 == 1 {
			can = i
		}
	}
	for i := range b.Batches {
		one := &b.Batches[i]
		switch {
		case bits == 0:
			one.Has = []string{b.Things[i]}
			one.Needs = []string{b.Things[i], b.Things[(i+1)%many]}
			slices.Sort(one.Needs)
		case i == can:
			one.Has, one.Needs = b.Things[:1], b.Things[:1]
		case bits>>i&1 == 0:
			one.Needs = b.Things[:1]
		}
	}
	return b
}

func TestEachChoiceOfWhoMoves(t *testing.T) {
	for many := 1; many <= impl.ShareMaxBatches; many++ {
		for bits := range 1 << many {
			// One alone can always have all it needs.
			if many == 1 && bits == 0 {
				continue
			}
			b := movers(many, bits)
			checkShare(t, "movers", b, true)
			checkWhoMoves(t, "movers", b, pick(namesOfBatches(b), bits)...)
		}
	}
}

// Of each place of a thing and of two batches it is told who has it, and who needs it.
func TestEachThingMayHinder(t *testing.T) {
	names, things := numbered("b", 5), numbered("t", 8)
	for has := range names {
		for needs := range names {
			for at, thing := range things {
				b := sharing(strings.Join(things, " "), names...)
				b.Batches[needs].Needs = []string{thing}
				b.Batches[has].Has, b.Batches[has].Needs = []string{thing}, []string{thing}
				what := fmt.Sprint(has, needs, at)
				want := slices.Clone(names)
				if has != needs {
					want = slices.Delete(want, needs, needs+1)
				}
				checkWhoMoves(t, what, b, want...)
				for i, name := range names {
					checkWaits(t, what, b, name, pick(names[has:has+1], choose(i == needs && i != has, 1, 0))...)
				}
			}
		}
	}
}

func TestWhatIsStuck(t *testing.T) {
	for what, b := range map[string]impl.ShareBook{
		"two":                    sharing("p q", "a p! q", "b p q!"),
		"two, and one who waits": sharing("p q", "a p! q", "b p q!", "c p"),
		"three":                  sharing("p q r", "a p! q", "b q! r", "c p r!"),
		"three, the other way":   sharing("p q r", "a p! r", "b p q!", "c q r!"),
		"five":                   sharing("p q r s t", "a p! q", "b q! r", "c r! s", "d s! t", "e p t!"),
		"full":                   fullShare(),
		"two rings":              sharing("p q r s", "a p! q", "b p q!", "c r! s", "d r s!"),
		"a ring, and a row":      sharing("p q r s", "a p! q", "b p q!", "c p r!", "d r s!", "e s"),
		"with what is free":      sharing("p q r s", "a p! q r s", "b p q! r s"),
		"the first and the last": sharing("p q r s t u v w", "a p! w", "b p w!"),
	} {
		checkWhoMoves(t, what, b)
		if !impl.ShareStuck(b) || impl.ShareSafe(b) {
			t.Errorf("%s: it is not stuck, or safe: %+v", what, b)
		}
	}
	for what, b := range map[string]impl.ShareBook{
		"nothing":                          {},
		"empty lists":                      {Things: []string{}, Batches: []impl.ShareBatch{}},
		"things alone":                     sharing("p q r"),
		"a third who needs nothing":        sharing("p q", "a p! q", "b p q!", "c"),
		"a third who needs what is free":   sharing("p q r", "a p! q", "b p q!", "c r"),
		"a third who has all it needs":     sharing("p q r", "a p! q", "b p q!", "c r!"),
		"a third ahead":                    sharing("p q", "0", "a p! q", "b p q!"),
		"a third between":                  sharing("p q", "a p! q", "aa", "b p q!"),
		"one of them needs less":           sharing("p q", "a p! q", "b q!"),
		"one of them has nothing":          sharing("p q", "a p! q", "b p q"),
		"one alone":                        sharing("p q", "a p! q"),
		"not safe behind those who can go": sharing("p q r s", "a p", "b q! r", "c q r!", "d s!", "e s"),
	} {
		if impl.ShareStuck(b) {
			t.Errorf("%s: it is stuck: %+v", what, b)
		}
	}
	checkWhoMoves(t, "the third of three", sharing("p q", "a p! q", "b p q!", "c"), "c")
}

func TestOnWhomSomebodyWaits(t *testing.T) {
	checkAllWait(t, "one alone", sharing("p q", "a p! q"), "a:")
	checkAllWait(t, "one that has all", sharing("p q", "a p! q!"), "a:")
	checkAllWait(t, "nobody has anything", sharing("p q", "a p q", "b p q", "c q"), "a:", "b:", "c:")
	checkAllWait(t, "all have their own", sharing("p q r", "a p!", "b q!", "c r!"), "a:", "b:", "c:")
	checkAllWait(t, "two, each on the other", sharing("p q", "a p! q", "b p q!"), "a: b", "b: a")
	checkAllWait(t, "it is waited on, and does not wait", sharing("p", "a p", "b p!", "c p"), "a: b", "b:", "c: b")
	checkAllWait(t, "on several", sharing("p q r s", "a p!", "b q!", "c p q r s", "d r!", "e s!"), "a:", "b:", "c: a b d e", "d:", "e:")
	checkAllWait(t, "on some of them", sharing("p q r s", "a p!", "b q!", "c q s", "d r!", "e s!"), "a:", "b:", "c: b e", "d:", "e:")
	checkAllWait(t, "on one that has several, once", sharing("p q r", "a p q r", "b p! q! r!"), "a: b", "b:")
	// What they need as well does not count, only what they have.
	checkAllWait(t, "what is needed by both is free", sharing("p q", "a p q!", "b p"), "a:", "b:")
	checkAllWait(t, "each on all others", sharing("p q r", "a p! q r", "b p q! r", "c p q r!"), "a: b c", "b: a c", "c: a b")
	checkAllWait(t, "on who is next to them, not on whom those wait", sharing("p q r", "a p! q", "b q! r", "c r!"), "a: b", "b: c", "c:")
	checkAllWait(t, "a ring and others", sharing("p q r s", "a p", "b q! r", "c q r!", "d s!", "e s"), "a:", "b: c", "c: b", "d:", "e: d")
	checkAllWait(t, "one has all of all", allOfAll(), "a: c", "b: c", "c:", "d: c", "e: c")
	checkAllWait(t, "called like things", sharing("a b", "a a! b", "b a b!"), "a: b", "b: a")
	names := namesOfBatches(fullShare())
	for i, name := range names {
		checkWaits(t, "full", fullShare(), name, slices.Delete(slices.Clone(names), i, i+1)...)
	}
}

// Each other one has a thing of its own, and one needs some of these.
func TestEachChoiceOfOnWhomSomebodyWaits(t *testing.T) {
	names, things := numbered("b", 5), numbered("t", 5)
	for at := range names {
		for bits := range 1 << len(names) {
			b := impl.ShareBook{Things: things}
			for i, name := range names {
				b.Batches = append(b.Batches, impl.ShareBatch{Name: name, Has: things[i : i+1], Needs: things[i : i+1]})
			}
			b.Batches[at].Has, b.Batches[at].Needs = pick(things, bits&(1<<at)), pick(things, bits)
			checkShare(t, "on whom they wait", b, true)
			for i, name := range names {
				checkWaits(t, "on whom they wait", b, name, pick(names, choose(i == at, bits&^(1<<at), 0))...)
			}
			checkWhoMoves(t, "all who do not wait", b, pick(names, choose(bits&^(1<<at) == 0, 31, 31&^(1<<at)))...)
		}
	}
}

func TestNobodyOfThisNameWaits(t *testing.T) {
	for what, b := range someShares() {
		for _, name := range []string{"", "none", "A", "a ", " a", "aa", "-", "keg", "t", "p", "a\x00", "batch-", "batch-15", strings.Repeat("a", 1<<20)} {
			checkWaits(t, what, b, name)
		}
	}
	ring := sharing("p q", "a p! q", "b p q!")
	checkWaits(t, "there", ring, "a", "b")
	for _, name := range []string{"c", "p", "q", "A", "ab", "a b", ""} {
		checkWaits(t, "not there", ring, name)
	}
}

func TestMovesOfWhatIsNotOk(t *testing.T) {
	for i, b := range append(spoiltShares(), impl.ShareBook{Things: []string{"A"}}, impl.ShareBook{Things: numbered("t", 9)}, sharing("p", "a p!", "b p!"), sharing("p q", "b p! q", "a p q!"), sharing("p q", "a p! q", "a p q!"), sharing("q p", "a q! p", "b q p!"), sharing("p q", "a p! q", "B p q!"), sharing("", "a", "b", "c", "d", "e", "f"), impl.ShareBook{Batches: []impl.ShareBatch{{}}}) {
		checkShare(t, strconv.Itoa(i), b, false)
		checkNothingOfMoves(t, strconv.Itoa(i), b, "a", "b", "c", "d", "none", "", "A", "B")
	}
}

// movesByDefinition, stuckByDefinition and waitsByDefinition read the chapter a second time.
func movesByDefinition(b impl.ShareBook) []string {
	if !shareByDefinition(b) {
		return nil
	}
	return slices.DeleteFunc(namesOfBatches(b), func(name string) bool { return !canByDefinition(b, name, nil) })
}

func stuckByDefinition(b impl.ShareBook) bool {
	return shareByDefinition(b) && len(b.Batches) > 0 && len(movesByDefinition(b)) == 0
}

// waitsByDefinition asks of each thing that is needed who has it.
func waitsByDefinition(b impl.ShareBook, name string) []string {
	var who []string
	for _, one := range b.Batches {
		if one.Name != name || !shareByDefinition(b) {
			continue
		}
		for _, thing := range one.Needs {
			who = append(who, whoByDefinition(b, thing))
		}
	}
	slices.Sort(who)
	return slices.DeleteFunc(slices.Compact(who), func(other string) bool { return other == "" || other == name })
}

// checkMovesByReading holds all that the chapter tells of a book against the second reading of it.
func checkMovesByReading(t *testing.T, what string, b impl.ShareBook) {
	t.Helper()
	if got, want := impl.ShareMoves(b), movesByDefinition(b); !slices.Equal(got, want) {
		t.Errorf("%s: ShareMoves = %q; want %q: %+v", what, got, want, b)
	}
	if got, want := impl.ShareStuck(b), stuckByDefinition(b); got != want {
		t.Errorf("%s: ShareStuck = %v; want %v: %+v", what, got, want, b)
	}
	for _, name := range append(namesOfBatches(b), "none", "") {
		checkWaits(t, what, b, name, waitsByDefinition(b, name)...)
	}
}

func TestMovesByReading(t *testing.T) {
	for what, b := range someShares() {
		checkMovesByReading(t, what, b)
	}
	for what, from := range someShares() {
		eachWithOneChange(from, textsOfAll(from), func(b impl.ShareBook) { checkMovesByReading(t, what, b) })
	}
	for what, from := range map[string]impl.ShareBook{"two": sharing("p q", "a p! q", "b p q!"), "three": sharing("p q", "a p", "b q!", "c p! q")} {
		texts := textsOfAll(from)
		eachWithOneChange(from, texts, func(b impl.ShareBook) {
			eachWithOneChange(b, texts, func(b impl.ShareBook) { checkMovesByReading(t, what, b) })
		})
	}
}

func TestMovesOfAllSmallBooks(t *testing.T) {
	for _, size := range []struct{ batches, things int }{{0, 3}, {1, 4}, {2, 4}, {3, 3}, {4, 2}, {5, 2}, {3, 0}} {
		eachShare(size.batches, size.things, func(b impl.ShareBook) { checkMovesByReading(t, "small", b) })
	}
}

func TestMovesOfDrawnBooks(t *testing.T) {
	dice := rand.New(rand.NewSource(54))
	for range 12000 {
		checkMovesByReading(t, "drawn", drawnShare(dice, 2+dice.Intn(9)))
	}
}

// shareAndName is a book, and somebody who may wait there.
type shareAndName struct {
	Book impl.ShareBook
	Name string
}

// sharesAndNames is books that are stuck, that are not, and that are not ok, each with who is there and who is not.
func sharesAndNames() []shareAndName {
	var all []shareAndName
	books := spoiltShares()
	for _, b := range someShares() {
		books = append(books, b)
	}
	for _, b := range books {
		for _, name := range append(namesOfBatches(b), "none") {
			all = append(all, shareAndName{b, name})
		}
	}
	return all
}

// toldOfMoves is all that is told of a book and a name.
type toldOfMoves struct {
	Moves, Waits []string
	Stuck        bool
}

func toldOfMovesBy(one shareAndName) toldOfMoves {
	return toldOfMoves{impl.ShareMoves(one.Book), impl.ShareWaits(one.Book, one.Name), impl.ShareStuck(one.Book)}
}

func TestMovesLeaveTheirArguments(t *testing.T) {
	for i, asked := range sharesAndNames() {
		one := withRoom(asked)
		was := withWhatIsBehind(one)
		first := toldOfMovesBy(one)
		if again := toldOfMovesBy(one); !reflect.DeepEqual(again, first) || !reflect.DeepEqual(toldOfMovesBy(asked), first) {
			t.Errorf("%d: it was %+v and is %+v", i, first, again)
		}
		if !reflect.DeepEqual(withWhatIsBehind(one), was) {
			t.Errorf("%d: what was asked became %+v", i, withWhatIsBehind(one))
		}
	}
}

func TestMovesAreNewMemory(t *testing.T) {
	for i, asked := range sharesAndNames() {
		what := strconv.Itoa(i)
		one := withRoom(asked)
		one.Name = strings.Clone(one.Name)
		first, second := toldOfMovesBy(one), toldOfMovesBy(one)
		checkOwnMemory(t, what, first, one)
		checkOwnMemory(t, what, second, one, first)
		checkOwnLists(t, what, first, one)
		checkOwnLists(t, what, second, one, first)
		want := fmt.Sprint(second)
		spoilTexts(first.Moves)
		spoilTexts(first.Waits)
		if got, again := fmt.Sprint(second), fmt.Sprint(toldOfMovesBy(one)); got != want || again != want {
			t.Errorf("%d: behind an answer that was written into it is %s, and then %s; want %s", i, got, again, want)
		}
	}
}

func TestMovesOfVeryLongLists(t *testing.T) {
	long := 100000
	names := make([]string, long)
	batches := make([]impl.ShareBatch, long)
	for i := range names {
		names[i] = strconv.Itoa(1000000 + i)
		batches[i] = impl.ShareBatch{Name: names[i], Needs: names[:i%9]}
	}
	for what, b := range map[string]impl.ShareBook{
		"things":             {Things: names},
		"batches":            {Things: names[:8], Batches: batches},
		"batches of nothing": {Batches: make([]impl.ShareBatch, long)},
		"needs":              {Things: names[:8], Batches: []impl.ShareBatch{{Name: "a", Needs: names}, {Name: "b", Has: names[:1], Needs: names[:1]}}},
		"has":                {Things: names[:8], Batches: []impl.ShareBatch{{Name: "a", Needs: names[:1]}, {Name: "b", Has: names, Needs: names[:8]}}},
		"a long name":        {Batches: []impl.ShareBatch{{Name: strings.Repeat("b", 1<<20)}}},
		"all":                {Things: names, Batches: batches},
	} {
		checkNothingOfMoves(t, what, b, "1000000", "1000008", "a", "b", "", strings.Repeat("b", 1<<20))
	}
}

// checkSomeMoves is some calls whose answers are known, one behind the other.
func checkSomeMoves(t *testing.T) {
	t.Helper()
	ring, wrong := sharing("p q r s t", "a p! q", "b q! r", "c r! s", "d s! t", "e p t!"), spoiltShares()[25]
	free := sharing("p q", "a p q", "b p q", "c p", "d q", "e p q")
	checkWhoMoves(t, "a ring", ring)
	checkWhoMoves(t, "all", free, "a", "b", "c", "d", "e")
	checkNothingOfMoves(t, "wrong", wrong, "a", "b")
	checkWaits(t, "a ring", ring, "e", "a")
	checkWaits(t, "full", fullShare(), "batch-12", "batch-10", "batch-11", "batch-13", "batch-14")
	checkWaits(t, "all", free, "e")
	checkWhoMoves(t, "small", smallShare(), "b")
	checkWhoMoves(t, "nobody", impl.ShareBook{})
	checkWaits(t, "small", smallShare(), "c", "a")
	checkWhoMoves(t, "some", movers(5, 0b10110), "b11", "b12", "b14")
}

// What one call was given must not be seen in the next one, nor in one beside it.
func TestMovesKeepNothing(t *testing.T) {
	var callers sync.WaitGroup
	for range 8 {
		callers.Go(func() {
			for range 40 {
				checkSomeMoves(t)
			}
		})
	}
	callers.Wait()
}

// Callers may ask about one book at once.
func TestMovesOfOneBookByManyCallers(t *testing.T) {
	all := sharesAndNames()
	want := make([]toldOfMoves, len(all))
	for i, one := range all {
		want[i] = toldOfMoves{movesByDefinition(one.Book), waitsByDefinition(one.Book, one.Name), stuckByDefinition(one.Book)}
	}
	var callers sync.WaitGroup
	for range 8 {
		callers.Go(func() {
			for i, one := range all {
				if got := toldOfMovesBy(one); fmt.Sprint(got) != fmt.Sprint(want[i]) {
					t.Errorf("it is %+v; want %+v: %+v", got, want[i], one)
				}
			}
		})
	}
	callers.Wait()
}

func TestGoroutinesOfMovesHaveEnded(t *testing.T) {
	before := runtime.NumGoroutine()
	for range 300 {
		checkSomeMoves(t)
	}
	checkNoMoreGoroutines(t, before)
}

func TestMovesHoweverGoroutinesRun(t *testing.T) {
	howeverGoroutinesRun(func() { checkSomeMoves(t) })
}
