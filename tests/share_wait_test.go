package tests

import (
	"fmt"
	"math/rand"
	"slices"
	"strings"
	"testing"

	"loop.example/malthouse/impl"
)

// checkAllGo lets the first of those who can have all they need ask for what they have not, and go, again and again until nobody is there.
func checkAllGo(t *testing.T, b impl.ShareBook) {
	t.Helper()
	from := b
	for range from.Batches {
		who := impl.ShareMoves(b)
		if len(who) == 0 {
			break
		}
		at := slices.Index(namesOfBatches(b), who[0])
		one := b.Batches[at]
		rest := slices.DeleteFunc(slices.Clone(one.Needs), func(thing string) bool { return slices.Contains(one.Has, thing) })
		given, code := impl.ShareAsk(b, one.Name, rest)
		if code != 0 || !slices.Equal(given.Batches[at].Has, one.Needs) {
			t.Errorf("%q asks for %q, and it is %+v, %d: %+v", one.Name, rest, given, code, b)
			return
		}
		left, code := impl.ShareLeave(given, one.Name)
		if code != 0 || len(left.Batches) != len(b.Batches)-1 {
			t.Errorf("%q goes, and it is %+v, %d: %+v", one.Name, left, code, given)
			return
		}
		b = left
	}
	if len(b.Batches) > 0 {
		t.Errorf("some wait for ever: %+v, from %+v", b, from)
	}
}

// checkPromise40 is asked of each book that calls have led to from things alone.
func checkPromise40(t *testing.T, b impl.ShareBook) {
	t.Helper()
	if !impl.ShareSafe(b) || impl.ShareStuck(b) {
		t.Errorf("ShareSafe = %v, ShareStuck = %v: %+v", impl.ShareSafe(b), impl.ShareStuck(b), b)
	}
	checkAllGo(t, b)
}

// checkPromise45 says that those who can have all they need are just those who wait on nobody.
func checkPromise45(t *testing.T, b impl.ShareBook) {
	t.Helper()
	who := impl.ShareMoves(b)
	for _, one := range b.Batches {
		if waits := impl.ShareWaits(b, one.Name); slices.Contains(who, one.Name) != (len(waits) == 0) {
			t.Errorf("%q move, and %q waits on %q: %+v", who, one.Name, waits, b)
		}
	}
}

// checkPromise46 says that what is stuck is not safe.
func checkPromise46(t *testing.T, b impl.ShareBook) {
	t.Helper()
	if impl.ShareStuck(b) && impl.ShareSafe(b) {
		t.Errorf("it is stuck, and safe: %+v", b)
	}
}

// notePromisedOfMoves asks promises 45 and 46 of an ok book, and counts what it is like.
func notePromisedOfMoves(t *testing.T, met counts, b impl.ShareBook) {
	t.Helper()
	checkPromise45(t, b)
	checkPromise46(t, b)
	many := len(impl.ShareMoves(b))
	met.note("nobody is there", len(b.Batches) == 0)
	met.note("all move", many > 1 && many == len(b.Batches))
	met.note("some move", many > 0 && many < len(b.Batches))
	met.note("stuck", impl.ShareStuck(b))
	met.note("not safe, and not stuck", !impl.ShareSafe(b) && !impl.ShareStuck(b))
}

func checkAllKindsMet(t *testing.T, met counts, least int) {
	t.Helper()
	checkCounted(t, met, least, "all move", "some move", "stuck", "not safe, and not stuck")
	checkCounted(t, met, 1, "nobody is there")
}

// Promises 45 and 46.
func TestPromisesOfMovesInSomeBooks(t *testing.T) {
	met := counts{}
	for _, b := range someShares() {
		notePromisedOfMoves(t, met, b)
	}
	checkAllKindsMet(t, met, 1)
}

// Promises 45 and 46.
func TestPromisesOfMovesInSmallBooks(t *testing.T) {
	sizes := []struct{ batches, things int }{{0, 3}, {1, 3}, {2, 3}, {3, 3}, {2, 4}, {4, 2}, {5, 2}}
	met := besideEachOther(len(sizes), func(i int) counts {
		met := counts{}
		eachShare(sizes[i].batches, sizes[i].things, func(b impl.ShareBook) { notePromisedOfMoves(t, met, b) })
		return met
	})
	checkAllKindsMet(t, met, 100)
}

// Promises 45 and 46.
func TestPromisesOfMovesInDrawnBooks(t *testing.T) {
	met := besideEachOther(8, func(i int) counts {
		dice, met := rand.New(rand.NewSource(int64(450+i))), counts{}
		for range 3000 {
			notePromisedOfMoves(t, met, drawnShare(dice, 2+dice.Intn(9)))
		}
		return met
	})
	checkAllKindsMet(t, met, 100)
}

// Promise 40 over drawn rows of calls from things alone.
func TestNobodyWaitsForEverBehindDrawnRows(t *testing.T) {
	met := drawnRows(400, func(met counts, p plea) (impl.ShareBook, int) {
		after, code := p.answer()
		checkPromise40(t, after)
		many := len(impl.ShareMoves(after))
		met.note("some wait", many < len(after.Batches))
		met.note("all but one wait", many == 1 && len(after.Batches) > 2)
		return after, code
	})
	checkCodes(t, met, 20)
	checkCounted(t, met, 100, "some wait", "all but one wait")
}

// eachPleaOf tells all calls by these names in a book, in which all is asked for that can be needed.
func eachPleaOf(b impl.ShareBook, names []string, tell func(p plea)) {
	for bits := range 1 << len(b.Things) {
		for _, name := range names {
			tell(plea{b, shareEnter, name, pick(b.Things, bits)})
		}
	}
	for _, one := range b.Batches {
		for bits := range 1 << len(one.Needs) {
			tell(plea{b, shareAsk, one.Name, pick(one.Needs, bits)})
			tell(plea{b, shareLess, one.Name, pick(one.Needs, bits)})
		}
		tell(plea{b, shareLeave, one.Name, nil})
	}
}

// ledToFrom is all books that calls by these names lead to from things alone.
func ledToFrom(things, names []string) []impl.ShareBook {
	all := []impl.ShareBook{{Things: things}}
	seen := map[string]bool{fmt.Sprint(all[0]): true}
	for next := 0; next < len(all); next++ {
		eachPleaOf(all[next], names, func(p plea) {
			after, _ := p.answer()
			if key := fmt.Sprint(after); !seen[key] {
				seen[key] = true
				all = append(all, after)
			}
		})
	}
	return all
}

// safeOnes is how many books of these names and things are safe: all of them can be led to, as whoever has less of what they have in a safe one is safe, too.
func safeOnes(things, names []string) int {
	safe := 0
	for bits := range 1 << len(names) {
		eachShare(len(pick(names, bits)), len(things), func(b impl.ShareBook) {
			safe += choose(isSafeByDefinition(b), 1, 0)
		})
	}
	return safe
}

// Promise 40 over all rows of calls by a few names over a few things.
func TestNobodyWaitsForEverBehindAllRows(t *testing.T) {
	sizes := []struct{ names, things int }{{1, 4}, {2, 3}, {3, 2}, {3, 3}, {4, 2}, {5, 1}}
	met := besideEachOther(len(sizes), func(i int) counts {
		met, names, things := counts{}, numbered("b", sizes[i].names), numbered("t", sizes[i].things)
		all := ledToFrom(things, names)
		for _, b := range all {
			checkPromise40(t, b)
			met.note("some wait", len(impl.ShareMoves(b)) < len(b.Batches))
			met.note("nobody waits", len(b.Batches) > 1 && len(impl.ShareMoves(b)) == len(b.Batches))
		}
		if want := safeOnes(things, names); len(all) != want {
			t.Errorf("%d names and %d things lead to %d books; %d are safe", len(names), len(things), len(all), want)
		}
		return met
	})
	checkCounted(t, met, 100, "some wait", "nobody waits")
}

// What is safe can be asked for from there on, too, whatever led to it.
func TestAllGoFromWhatIsSafeByMoves(t *testing.T) {
	dice := rand.New(rand.NewSource(40))
	met := counts{}
	for range 6000 {
		b := drawnShare(dice, 2+dice.Intn(6))
		isSafe := impl.ShareSafe(b)
		if isSafe {
			checkPromise40(t, b)
		}
		met.note("safe", isSafe && len(b.Batches) > 2)
	}
	checkCounted(t, met, 1000, "safe")
}

// A row of calls with what is known of each book on its way.
func TestARowInWhichSomeWait(t *testing.T) {
	b := sharing("keg tun")
	ask := func(call shareCall, name, names string, code int) {
		t.Helper()
		after, is := plea{b, call, name, strings.Fields(names)}.answer()
		if is != code {
			t.Errorf("%v of %q, %q = %d; want %d: %+v", call, name, names, is, code, b)
		}
		b = after
		checkPromise40(t, b)
	}
	ask(shareEnter, "a", "keg tun", 0)
	ask(shareEnter, "b", "keg tun", 0)
	checkWhoMoves(t, "both", b, "a", "b")
	ask(shareAsk, "b", "tun", 0)
	checkWhoMoves(t, "b has the tun", b, "b")
	checkAllWait(t, "b has the tun", b, "a: b", "b:")
	ask(shareAsk, "a", "keg", 6)
	ask(shareAsk, "a", "keg tun", 5)
	ask(shareAsk, "b", "keg", 0)
	ask(shareLess, "b", "keg", 0)
	checkAllWait(t, "b has the keg alone", b, "a: b", "b:")
	ask(shareAsk, "a", "tun", 0)
	checkWhoMoves(t, "a has the tun", b, "b")
	ask(shareLeave, "b", "", 0)
	checkWhoMoves(t, "b is gone", b, "a")
	ask(shareAsk, "a", "keg", 0)
	ask(shareLeave, "a", "", 0)
	checkWhoMoves(t, "nobody is there", b)
}
