package tests

import (
	"math/rand"
	"slices"
	"strconv"
	"testing"

	"loop.example/malthouse/impl"
)

// checkPromise42 looks at what is refused with 5 or 6: another one has some of it; or no order of all fits what would be, and who asks is not of those who can have all they need.
func checkPromise42(t *testing.T, p plea, code int) {
	t.Helper()
	if code == 5 && !slices.ContainsFunc(p.Names, func(thing string) bool {
		who := impl.ShareWho(p.Book, thing)
		return who != "" && who != p.Name
	}) {
		t.Errorf("nobody else has any of %q, which %q is refused: %+v", p.Names, p.Name, p.Book)
	}
	if code != 6 {
		return
	}
	would := wouldBe(p)
	for _, order := range ordersOf(namesOfBatches(would)) {
		if impl.ShareFits(would, order) {
			t.Errorf("behind it %q would fit, and %q is refused %q: %+v", order, p.Name, p.Names, p.Book)
		}
	}
	if slices.Contains(impl.ShareMoves(p.Book), p.Name) {
		t.Errorf("%q can have all they need, and are refused %q: %+v", p.Name, p.Names, p.Book)
	}
}

// checkPromise43 says that a book that was safe is so behind all but ShareAsk, and behind that, too, as 6 refuses what would not be.
func checkPromise43(t *testing.T, p plea, after impl.ShareBook) {
	t.Helper()
	if impl.ShareSafe(p.Book) && !impl.ShareSafe(after) {
		t.Errorf("%v of %q, %q leads from what is safe to what is not: %+v", p.Call, p.Name, p.Names, p.Book)
	}
}

// checkPromise44 says that what is given is had by who asked, and each thing by one at most, who needs it.
func checkPromise44(t *testing.T, p plea, after impl.ShareBook, code int) {
	t.Helper()
	if p.Call == shareAsk && code == 0 {
		for _, thing := range p.Names {
			checkWho(t, "it was given", after, thing, p.Name)
		}
	}
	checkShare(t, "behind a call", after, true)
	checkHadOnce(t, after)
}

// checkPromisedOfPlea makes a call in a book that is ok, and tells what comes of it.
func checkPromisedOfPlea(t *testing.T, p plea) (impl.ShareBook, int) {
	t.Helper()
	after, code := p.answer()
	checkPromise42(t, p, code)
	checkPromise43(t, p, after)
	checkPromise44(t, p, after, code)
	return after, code
}

// notePromised counts what a call has come to, in a book that is safe or not.
func notePromised(t *testing.T, met counts, p plea) {
	t.Helper()
	_, code := checkPromisedOfPlea(t, p)
	met.note(p.Call.with(code)+choose(impl.ShareSafe(p.Book), ", safe", ", not safe"), true)
}

// checkWhoCanIsGiven says that whoever can have all they need is given any of it.
func checkWhoCanIsGiven(t *testing.T, met counts, b impl.ShareBook) {
	t.Helper()
	who := impl.ShareMoves(b)
	for _, one := range b.Batches {
		if !slices.Contains(who, one.Name) {
			continue
		}
		for bits := range 1 << len(one.Needs) {
			things := pick(one.Needs, bits)
			if _, code := impl.ShareAsk(b, one.Name, things); code != 0 {
				t.Errorf("%q can have all they need, and are refused %q with %d: %+v", one.Name, things, code, b)
			}
		}
		met.note("can have all", len(one.Needs) > len(one.Has))
	}
}

// eachRightPlea tells all calls in a book whose names and lists are right, or are of what is there.
func eachRightPlea(b impl.ShareBook, tell func(p plea)) {
	for bits := range 1 << len(b.Things) {
		for _, name := range []string{"a", "b10x", "z"} {
			tell(plea{b, shareEnter, name, pick(b.Things, bits)})
		}
		for _, name := range namesOfBatches(b) {
			tell(plea{b, shareAsk, name, pick(b.Things, bits)})
			tell(plea{b, shareLess, name, pick(b.Things, bits)})
		}
	}
	for _, name := range namesOfBatches(b) {
		tell(plea{b, shareLeave, name, nil})
	}
}

// Promises 42, 43 and 44.
func TestPromisesOfAskingInSmallBooks(t *testing.T) {
	sizes := []struct{ batches, things int }{{0, 3}, {1, 3}, {2, 3}, {3, 2}, {3, 3}, {4, 2}, {5, 1}}
	met := besideEachOther(len(sizes), func(i int) counts {
		met := counts{}
		eachShare(sizes[i].batches, sizes[i].things, func(b impl.ShareBook) {
			eachRightPlea(b, func(p plea) { notePromised(t, met, p) })
			checkWhoCanIsGiven(t, met, b)
		})
		return met
	})
	checkCounted(t, met, 100, "ShareAsk 0, safe", "ShareAsk 0, not safe", "ShareAsk 5, safe", "ShareAsk 5, not safe", "ShareAsk 6, safe", "can have all")
	checkCounted(t, met, 100, "ShareEnter 0, safe", "ShareEnter 0, not safe", "ShareLess 0, safe", "ShareLess 0, not safe", "ShareLeave 0, safe", "ShareLeave 0, not safe")
	if often := met["ShareAsk 6, not safe"]; often > 0 {
		t.Errorf("in what is not safe %d were refused with 6", often)
	}
}

// Promises 42, 43 and 44.
func TestPromisesOfAskingInDrawnBooks(t *testing.T) {
	met := besideEachOther(8, func(i int) counts {
		dice, met := rand.New(rand.NewSource(int64(420+i))), counts{}
		for range 1500 {
			b := drawnShare(dice, 2+dice.Intn(9))
			for range 20 {
				notePromised(t, met, drawnPlea(dice, b))
			}
			checkWhoCanIsGiven(t, met, b)
		}
		return met
	})
	checkCounted(t, met, 100, "ShareAsk 0, safe", "ShareAsk 0, not safe", "ShareAsk 5, safe", "ShareAsk 5, not safe", "ShareAsk 6, safe", "can have all")
	checkCounted(t, met, 100, "ShareEnter 0, safe", "ShareLess 0, safe", "ShareLeave 0, safe")
	if often := met["ShareAsk 6, not safe"]; often > 0 {
		t.Errorf("in what is not safe %d were refused with 6", often)
	}
}

// rowPlea draws a call that is mostly right, so that books fill and empty again.
func rowPlea(dice *rand.Rand, b impl.ShareBook) plea {
	names := namesOfBatches(b)
	if len(names) == 0 || dice.Intn(6) == 0 {
		return plea{b, shareEnter, "b" + strconv.Itoa(10+dice.Intn(9)), pick(b.Things, dice.Intn(1<<len(b.Things)))}
	}
	one := b.Batches[dice.Intn(len(names))]
	switch dice.Intn(12) {
	case 0:
		return plea{b, shareLeave, one.Name, nil}
	case 1:
		return plea{b, shareLess, one.Name, pick(one.Needs, dice.Intn(1<<len(one.Needs))|dice.Intn(1<<len(one.Needs)))}
	case 2:
		return drawnPlea(dice, b)
	}
	return plea{b, shareAsk, one.Name, pick(one.Needs, dice.Intn(1<<len(one.Needs))&dice.Intn(1<<len(one.Needs)))}
}

// drawnRows lets rows of calls be made from things alone, and counts their codes.
func drawnRows(seed int64, call func(met counts, p plea) (impl.ShareBook, int)) counts {
	return besideEachOther(8, func(i int) counts {
		dice, met := rand.New(rand.NewSource(seed+int64(i))), counts{}
		for range 40 {
			b := impl.ShareBook{Things: numbered("t", 1+dice.Intn(8))}
			for range 200 {
				p := rowPlea(dice, b)
				after, code := call(met, p)
				met.note(p.Call.with(code), true)
				b = after
			}
		}
		return met
	})
}

// From things alone on all that comes is safe, and the promises hold of each call.
func TestPromisesOfRowsOfCalls(t *testing.T) {
	met := drawnRows(430, func(_ counts, p plea) (impl.ShareBook, int) {
		want, wanted := answerByDefinition(p)
		after, code := checkPromisedOfPlea(t, p)
		if code != wanted || !sameShare(after, want) || !isSafeByDefinition(after) {
			t.Errorf("%+v: it is %+v, %d; want %+v, %d", p, after, code, want, wanted)
		}
		return after, code
	})
	checkCodes(t, met, 20)
}

// If each asks for all they need, and goes, in the order that is told, all go.
func TestAllGoFromWhatIsSafe(t *testing.T) {
	dice := rand.New(rand.NewSource(44))
	safe := 0
	for range 3000 {
		b := drawnShare(dice, 2+dice.Intn(6))
		order, ok := impl.ShareOrder(b)
		safe += choose(ok, 1, 0)
		for _, name := range order {
			one := b.Batches[slices.Index(namesOfBatches(b), name)]
			given, code := impl.ShareAsk(b, name, one.Needs)
			gone, left := impl.ShareLeave(given, name)
			if code != 0 || left != 0 {
				t.Errorf("%q asks with %d and leaves with %d: %+v", name, code, left, b)
			}
			b = gone
		}
		if ok && len(b.Batches) > 0 {
			t.Errorf("some are left: %+v", b)
		}
	}
	if safe < 1000 {
		t.Errorf("%d were safe", safe)
	}
}
