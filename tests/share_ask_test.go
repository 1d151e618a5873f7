package tests

import (
	"fmt"
	"math/rand"
	"reflect"
	"slices"
	"strconv"
	"strings"
	"sync"
	"testing"

	"loop.example/malthouse/impl"
)

// shareCall is one of the four that are called.
type shareCall uint8

const (
	shareEnter shareCall = iota
	shareAsk
	shareLess
	shareLeave
)

func allCalls() []shareCall {
	return []shareCall{shareEnter, shareAsk, shareLess, shareLeave}
}

func (c shareCall) String() string {
	return []string{"ShareEnter", "ShareAsk", "ShareLess", "ShareLeave"}[c]
}

// with is what a code of this call is counted as.
func (c shareCall) with(code int) string {
	return c.String() + " " + strconv.Itoa(code)
}

// plea is a call; Names are needs, or things.
type plea struct {
	Book  impl.ShareBook
	Call  shareCall
	Name  string
	Names []string
}

func (p plea) answer() (impl.ShareBook, int) {
	switch p.Call {
	case shareEnter:
		return impl.ShareEnter(p.Book, p.Name, p.Names)
	case shareAsk:
		return impl.ShareAsk(p.Book, p.Name, p.Names)
	case shareLess:
		return impl.ShareLess(p.Book, p.Name, p.Names)
	}
	return impl.ShareLeave(p.Book, p.Name)
}

// sameShare says whether two books are the same; an empty list is as good as none.
func sameShare(a, b impl.ShareBook) bool {
	return slices.Equal(a.Things, b.Things) && slices.EqualFunc(a.Batches, b.Batches, func(a, b impl.ShareBatch) bool {
		return a.Name == b.Name && slices.Equal(a.Has, b.Has) && slices.Equal(a.Needs, b.Needs)
	})
}

func checkPlea(t *testing.T, what string, p plea, want impl.ShareBook, code int) {
	t.Helper()
	if after, is := p.answer(); is != code || !sameShare(after, want) {
		t.Errorf("%s: %v of %q, %q = %+v, %d; want %+v, %d: %+v", what, p.Call, p.Name, p.Names, after, is, want, code, p.Book)
	}
}

// checkGiven asks for a book behind a call, names being written as one text.
func checkGiven(t *testing.T, call shareCall, b impl.ShareBook, name, names string, want impl.ShareBook) {
	t.Helper()
	checkPlea(t, "it happens", plea{b, call, name, strings.Fields(names)}, want, 0)
	checkShare(t, "behind it", want, true)
}

// checkNotGiven asks for a code, and for the book as it is, or nothing.
func checkNotGiven(t *testing.T, call shareCall, b impl.ShareBook, name string, names []string, code int) {
	t.Helper()
	checkPlea(t, "it is refused", plea{b, call, name, names}, choose(code == 1, impl.ShareBook{}, copied(b)), code)
}

// notOf is lists that are not of these names, ascending.
func notOf(names []string) [][]string {
	all := [][]string{{"none"}, {""}, {"A"}, {" "}, {"zzzzzzzzz"}, append(slices.Clone(names), "zzzzzzzz"), append([]string{"-"}, names...), append(slices.Clone(names), "")}
	all = append(all, swapped(names)...)
	for i, name := range names {
		all = append(all, []string{name, name}, []string{name, "none"}, []string{name + " "}, []string{strings.ToUpper(name)}, []string{name + "-"}, slices.Insert(slices.Clone(names), i, name))
		for _, other := range names[:i] {
			all = append(all, []string{name, other}, []string{other, name, other}, []string{other, name, name}, []string{other, other, name})
		}
	}
	return all
}

func TestPleasInBooksThatAreNotOk(t *testing.T) {
	for _, b := range append(spoiltShares(), impl.ShareBook{Things: []string{"A"}}, impl.ShareBook{Things: numbered("t", 9)}, sharing("p", "a p!", "b p!")) {
		for _, call := range allCalls() {
			for _, name := range []string{"a", "b", "c", "d", "none", "", "A"} {
				for _, names := range []string{"", "keg", "tun vat", "jar keg tun vat", "tun keg", "none"} {
					checkNotGiven(t, call, b, name, strings.Fields(names), 1)
				}
			}
		}
	}
}

func TestWhoEnters(t *testing.T) {
	things := "keg tun vat"
	checkGiven(t, shareEnter, sharing(things), "a", "keg tun", sharing(things, "a keg tun"))
	checkGiven(t, shareEnter, sharing(things), "a", "", sharing(things, "a"))
	checkGiven(t, shareEnter, sharing(things), "a", things, sharing(things, "a keg tun vat"))
	checkGiven(t, shareEnter, impl.ShareBook{}, "a", "", sharing("", "a"))
	checkGiven(t, shareEnter, impl.ShareBook{Things: []string{}, Batches: []impl.ShareBatch{}}, "a", "", sharing("", "a"))
	// What the others have and need stays theirs.
	two := sharing(things, "b keg! tun", "d tun! vat")
	checkGiven(t, shareEnter, two, "a", "keg vat", sharing(things, "a keg vat", "b keg! tun", "d tun! vat"))
	checkGiven(t, shareEnter, two, "c", "keg vat", sharing(things, "b keg! tun", "c keg vat", "d tun! vat"))
	checkGiven(t, shareEnter, two, "e", "keg vat", sharing(things, "b keg! tun", "d tun! vat", "e keg vat"))
	checkGiven(t, shareEnter, two, "keg", "tun", sharing(things, "b keg! tun", "d tun! vat", "keg tun"))
	four := sharing(things, "a", "b keg!", "c", "e keg vat!")
	checkGiven(t, shareEnter, four, "d", things, sharing(things, "a", "b keg!", "c", "d keg tun vat", "e keg vat!"))
	// Whoever enters has nothing, so that a ring is neither made nor mended.
	ring := sharing("p q", "a p! q", "b p q!")
	checkGiven(t, shareEnter, ring, "c", "p q", sharing("p q", "a p! q", "b p q!", "c p q"))
	eight := impl.ShareBook{Things: numbered("t", impl.ShareMaxThings)}
	for bits := range 1 << impl.ShareMaxThings {
		needs := pick(eight.Things, bits)
		want := impl.ShareBook{Things: eight.Things, Batches: []impl.ShareBatch{{Name: "a", Needs: needs}}}
		checkGiven(t, shareEnter, eight, "a", strings.Join(needs, " "), want)
	}
}

func TestWhoEntersComesInOrder(t *testing.T) {
	names := []string{"-", "--", "0", "9", "a", "a-", "a0", "aa", "zzzzzzzz"}
	for bits := range 1 << len(names) {
		some := pick(names, bits)
		if len(some) > impl.ShareMaxBatches || len(some) == 0 {
			continue
		}
		for at, name := range some {
			rest := slices.Delete(slices.Clone(some), at, at+1)
			checkGiven(t, shareEnter, sharing("p q", rest...), name, "", sharing("p q", some...))
		}
	}
}

func TestNamesOfWhoEnters(t *testing.T) {
	eachText(func(text string, isName bool) {
		for _, b := range []impl.ShareBook{{}, sharing("p q"), sharing("p q", "bbbbbb p! q", "yy q")} {
			needs := pick(b.Things, 3)
			if !isName {
				checkNotGiven(t, shareEnter, b, text, needs, 2)
				continue
			}
			want := copied(b)
			want.Batches = append(want.Batches, impl.ShareBatch{Name: text, Needs: needs})
			slices.SortFunc(want.Batches, func(a, b impl.ShareBatch) int { return strings.Compare(a.Name, b.Name) })
			checkGiven(t, shareEnter, b, text, strings.Join(needs, " "), want)
		}
	})
}

func TestWhoCannotEnter(t *testing.T) {
	for _, b := range someShares() {
		for _, needs := range notOf(b.Things) {
			checkNotGiven(t, shareEnter, b, "m", needs, 2)
			checkNotGiven(t, shareEnter, b, "", needs, 2)
		}
		for _, one := range b.Batches {
			checkNotGiven(t, shareEnter, b, one.Name, nil, 3)
			checkNotGiven(t, shareEnter, b, one.Name, b.Things, 3)
			checkNotGiven(t, shareEnter, b, one.Name, one.Needs, 3)
		}
		if len(b.Batches) == impl.ShareMaxBatches {
			for _, name := range []string{"0", "bb", "m", "zz"} {
				checkNotGiven(t, shareEnter, b, name, nil, 4)
				checkNotGiven(t, shareEnter, b, name, b.Things, 4)
			}
		}
	}
}

func TestEnteringThatMeetsSeveralCodes(t *testing.T) {
	eachMetReason(strings.Fields("book needs there many"), []int{1, 2, 3, 4}, func(met map[string]bool, code int) {
		b := sharing("p q", "b p! q", "c q!", "d", "e", "f")
		b.Batches = b.Batches[:choose(met["many"], 5, 4)]
		if met["book"] {
			b.Batches[0].Has = []string{"p", "q"}
		}
		checkCodeOf(t, plea{b, shareEnter, choose(met["there"], "c", "cc"), strings.Fields(choose(met["needs"], "q p", "p q"))}, code)
		if !met["there"] {
			checkCodeOf(t, plea{b, shareEnter, choose(met["needs"], "C", "a"), []string{"q"}}, code)
		}
	})
}

// checkCodeOf asks for a code, and with one for what a refusal leaves.
func checkCodeOf(t *testing.T, p plea, code int) {
	t.Helper()
	if code > 0 {
		checkNotGiven(t, p.Call, p.Book, p.Name, p.Names, code)
	} else if after, is := p.answer(); is != 0 || sameShare(after, p.Book) || !shareByDefinition(after) {
		t.Errorf("%+v: it is %+v, %d", p, after, is)
	}
}

func TestWhatIsGiven(t *testing.T) {
	things := "jar keg tun vat"
	free := sharing(things, "a jar keg tun vat", "b tun vat")
	checkGiven(t, shareAsk, free, "a", "", free)
	checkGiven(t, shareAsk, free, "a", "tun", sharing(things, "a jar keg tun! vat", "b tun vat"))
	checkGiven(t, shareAsk, free, "a", "keg vat", sharing(things, "a jar keg! tun vat!", "b tun vat"))
	checkGiven(t, shareAsk, free, "a", things, sharing(things, "a jar! keg! tun! vat!", "b tun vat"))
	checkGiven(t, shareAsk, free, "b", "tun", sharing(things, "a jar keg tun vat", "b tun! vat"))
	checkGiven(t, shareAsk, free, "b", "tun vat", sharing(things, "a jar keg tun vat", "b tun! vat!"))
	had := sharing(things, "a jar keg! tun vat", "b tun! vat")
	checkGiven(t, shareAsk, had, "a", "keg", had)
	checkGiven(t, shareAsk, had, "b", "tun", had)
	checkGiven(t, shareAsk, had, "a", "jar keg", sharing(things, "a jar! keg! tun vat", "b tun! vat"))
	checkGiven(t, shareAsk, had, "b", "tun vat", sharing(things, "a jar keg! tun vat", "b tun! vat!"))
	checkGiven(t, shareAsk, had, "b", "vat", sharing(things, "a jar keg! tun vat", "b tun! vat!"))
	checkGiven(t, shareAsk, sharing("", "a"), "a", "", sharing("", "a"))
	checkGiven(t, shareAsk, allOfAll(), "c", strings.Join(allOfAll().Things, " "), allOfAll())
}

// What is had and what is given stand in one list, in order and each once.
func TestWhatIsHadStaysInOrder(t *testing.T) {
	things := numbered("t", 5)
	for had := range 1 << len(things) {
		for asked := range 1 << len(things) {
			b := impl.ShareBook{Things: things, Batches: []impl.ShareBatch{{Name: "a", Needs: things}, {Name: "b", Has: pick(things, had), Needs: things}, {Name: "c", Needs: things}}}
			want := copied(b)
			want.Batches[1].Has = pick(things, had|asked)
			checkGiven(t, shareAsk, b, "b", strings.Join(pick(things, asked), " "), want)
		}
	}
}

func TestWhoAsksAndIsNotThere(t *testing.T) {
	for _, call := range []shareCall{shareAsk, shareLess, shareLeave} {
		for _, b := range someShares() {
			for _, name := range []string{"", "none", "A", "a ", "aa", "-", "keg", "t", "a\x00", strings.Repeat("a", 1000)} {
				checkNotGiven(t, call, b, name, nil, 3)
				checkNotGiven(t, call, b, name, b.Things, 3)
				for _, names := range notOf(b.Things)[:6] {
					checkNotGiven(t, call, b, name, names, 3)
				}
			}
		}
	}
}

func TestWhatIsAskedForAndNotNeeded(t *testing.T) {
	for _, b := range someShares() {
		for _, one := range b.Batches {
			for _, names := range notOf(one.Needs) {
				checkNotGiven(t, shareAsk, b, one.Name, names, 2)
				checkNotGiven(t, shareLess, b, one.Name, names, 2)
			}
			for _, thing := range b.Things {
				if !slices.Contains(one.Needs, thing) {
					checkNotGiven(t, shareAsk, b, one.Name, []string{thing}, 2)
					checkNotGiven(t, shareLess, b, one.Name, []string{thing}, 2)
				}
			}
		}
	}
	// Another one needs it, or has it, or nobody does.
	b := sharing("p q r s", "a p", "b q", "c r!")
	for _, names := range []string{"q", "r", "s", "p q", "p r", "p s"} {
		checkNotGiven(t, shareAsk, b, "a", strings.Fields(names), 2)
		checkNotGiven(t, shareLess, b, "a", strings.Fields(names), 2)
	}
}

func TestWhatAnotherOneHas(t *testing.T) {
	b := sharing("p q r s", "a p q r s", "b q!", "c", "d s!")
	for _, names := range []string{"q", "s", "p q", "q r", "p s", "r s", "q s", "p q r", "p r s", "p q r s"} {
		checkNotGiven(t, shareAsk, b, "a", strings.Fields(names), 5)
	}
	checkGiven(t, shareAsk, b, "a", "p", sharing("p q r s", "a p! q r s", "b q!", "c", "d s!"))
	checkGiven(t, shareAsk, b, "a", "p r", sharing("p q r s", "a p! q r! s", "b q!", "c", "d s!"))
	checkNotGiven(t, shareAsk, b, "d", []string{"q"}, 2)
	// What it has itself does not help, and neither does what is free.
	b = sharing("p q r", "a p! q r", "b q!", "c")
	checkNotGiven(t, shareAsk, b, "a", []string{"q"}, 5)
	checkNotGiven(t, shareAsk, b, "a", []string{"p", "q"}, 5)
	checkNotGiven(t, shareAsk, b, "a", []string{"q", "r"}, 5)
	checkNotGiven(t, shareAsk, b, "a", []string{"p", "q", "r"}, 5)
	checkGiven(t, shareAsk, b, "a", "p r", sharing("p q r", "a p! q r!", "b q!", "c"))
	// In a book that is not safe somebody else has it all the same.
	ring := sharing("p q", "a p! q", "b p q!")
	checkNotGiven(t, shareAsk, ring, "a", []string{"q"}, 5)
	checkNotGiven(t, shareAsk, ring, "b", []string{"p", "q"}, 5)
	for _, one := range fullShare().Batches {
		checkNotGiven(t, shareAsk, fullShare(), one.Name, fullShare().Things, 5)
		checkGiven(t, shareAsk, fullShare(), one.Name, strings.Join(one.Has, " "), fullShare())
	}
}

func TestWhatWouldNotBeSafe(t *testing.T) {
	b := sharing("p q", "a p! q", "b p q")
	checkNotGiven(t, shareAsk, b, "b", []string{"q"}, 6)
	checkNotGiven(t, shareAsk, b, "b", []string{"p"}, 5)
	checkNotGiven(t, shareAsk, b, "b", []string{"p", "q"}, 5)
	checkGiven(t, shareAsk, b, "a", "q", sharing("p q", "a p! q!", "b p q"))
	checkGiven(t, shareAsk, b, "a", "p", b)
	checkGiven(t, shareAsk, b, "b", "", b)
	// The last one of a ring, and one that is of no ring.
	row := sharing("p q r s t", "a p! q", "b q! r", "c r! s", "d s! t", "e p t")
	checkNotGiven(t, shareAsk, row, "e", []string{"t"}, 6)
	checkGiven(t, shareAsk, row, "d", "t", sharing("p q r s t", "a p! q", "b q! r", "c r! s", "d s! t!", "e p t"))
	checkGiven(t, shareAsk, sharing("p q r", "a p! q", "b p q", "c r"), "c", "r", sharing("p q r", "a p! q", "b p q", "c r!"))
	// One of two things would do, both would not.
	two := sharing("p q r", "a p! q", "b p q r")
	checkGiven(t, shareAsk, two, "b", "r", sharing("p q r", "a p! q", "b p q r!"))
	checkNotGiven(t, shareAsk, two, "b", []string{"q", "r"}, 6)
	checkNotGiven(t, shareAsk, two, "b", []string{"q"}, 6)
	// What it has already does not help.
	three := sharing("p q r", "a p! q", "b p q r!")
	checkNotGiven(t, shareAsk, three, "b", []string{"q", "r"}, 6)
	checkGiven(t, shareAsk, three, "b", "r", three)
}

func TestWhatIsNotSafeAlready(t *testing.T) {
	things := "p q r s t"
	ring := sharing(things, "a p! q t", "b p q!", "c r! s", "d r s")
	checkGiven(t, shareAsk, ring, "a", "", ring)
	checkGiven(t, shareAsk, ring, "a", "p", ring)
	checkGiven(t, shareAsk, ring, "a", "t", sharing(things, "a p! q t!", "b p q!", "c r! s", "d r s"))
	checkGiven(t, shareAsk, ring, "c", "s", sharing(things, "a p! q t", "b p q!", "c r! s!", "d r s"))
	// A second ring comes of it, and is not refused.
	checkGiven(t, shareAsk, ring, "d", "s", sharing(things, "a p! q t", "b p q!", "c r! s", "d r s!"))
	checkNotGiven(t, shareAsk, sharing(things, "c r! s", "d r s"), "d", []string{"s"}, 6)
}

func TestAskingThatMeetsSeveralCodes(t *testing.T) {
	eachMetReason(strings.Fields("book nobody names had ring"), []int{1, 3, 2, 5, 6}, func(met map[string]bool, code int) {
		// With q b has what a needs, who has what b needs; s is had by c, who needs nothing else.
		b := sharing("p q r s t", "a p! q", "b p q r s t", "c s!")
		names := append([]string{choose(met["ring"], "q", "r")}, choose(met["had"], []string{"s"}, nil)...)
		if met["names"] {
			names = append(names, choose(met["had"], "p", "none"))
		}
		if met["book"] {
			b.Things[0] = "P"
		}
		checkCodeOf(t, plea{b, shareAsk, choose(met["nobody"], "bb", "b"), names}, code)
	})
}

func TestWhoNeedsLess(t *testing.T) {
	things := "jar keg tun vat"
	b := sharing(things, "a keg! tun vat!", "b jar tun!")
	checkGiven(t, shareLess, b, "a", "keg tun vat", b)
	checkGiven(t, shareLess, b, "a", "keg vat", sharing(things, "a keg! vat!", "b jar tun!"))
	checkGiven(t, shareLess, b, "a", "keg tun", sharing(things, "a keg! tun", "b jar tun!"))
	checkGiven(t, shareLess, b, "a", "tun vat", sharing(things, "a tun vat!", "b jar tun!"))
	checkGiven(t, shareLess, b, "a", "tun", sharing(things, "a tun", "b jar tun!"))
	checkGiven(t, shareLess, b, "a", "", sharing(things, "a", "b jar tun!"))
	checkGiven(t, shareLess, b, "b", "jar", sharing(things, "a keg! tun vat!", "b jar"))
	checkGiven(t, shareLess, b, "b", "tun", sharing(things, "a keg! tun vat!", "b tun!"))
	checkGiven(t, shareLess, sharing("", "a"), "a", "", sharing("", "a"))
	// A ring is left by needing less.
	checkGiven(t, shareLess, sharing("p q", "a p! q", "b p q!"), "a", "p", sharing("p q", "a p!", "b p q!"))
	checkGiven(t, shareLess, sharing("p q", "a p! q", "b p q!"), "b", "p", sharing("p q", "a p! q", "b p"))
	free, _ := impl.ShareLess(b, "a", []string{"tun"})
	for thing, who := range map[string]string{"jar": "", "keg": "", "tun": "b", "vat": ""} {
		checkWho(t, "a needs the tun alone", free, thing, who)
	}
}

func TestAllThatCanBeNeededLess(t *testing.T) {
	things := numbered("t", 4)
	for needs := range 1 << len(things) {
		for has := range 1 << len(things) {
			for less := range 1 << len(things) {
				if has&^needs > 0 {
					continue
				}
				b := impl.ShareBook{Things: things, Batches: []impl.ShareBatch{{Name: "a", Has: pick(things, 15&^has), Needs: things}, {Name: "b", Has: pick(things, has), Needs: pick(things, needs)}, {Name: "c", Needs: things}}}
				if less&^needs > 0 {
					checkNotGiven(t, shareLess, b, "b", pick(things, less), 2)
					continue
				}
				want := copied(b)
				want.Batches[1].Has, want.Batches[1].Needs = pick(things, has&less), pick(things, less)
				checkGiven(t, shareLess, b, "b", strings.Join(pick(things, less), " "), want)
			}
		}
	}
}

func TestNeedingLessThatMeetsSeveralCodes(t *testing.T) {
	eachMetReason(strings.Fields("book nobody names"), []int{1, 3, 2}, func(met map[string]bool, code int) {
		for _, wrong := range []string{"r", "q p", "p p", "p r", "none"} {
			b := sharing("p q r", "a p! q", choose(met["book"], "b p! r", "b p r"))
			names := strings.Fields(choose(met["names"], wrong, "p"))
			checkCodeOf(t, plea{b, shareLess, choose(met["nobody"], "c", "a"), names}, code)
		}
	})
}

func TestWhoLeaves(t *testing.T) {
	for _, b := range someShares() {
		for at, one := range b.Batches {
			want := copied(b)
			want.Batches = slices.Delete(want.Batches, at, at+1)
			checkGiven(t, shareLeave, b, one.Name, "", want)
			after, _ := impl.ShareLeave(b, one.Name)
			for _, thing := range one.Has {
				checkWho(t, "who had it is gone", after, thing, "")
			}
			checkNotGiven(t, shareLeave, after, one.Name, nil, 3)
		}
	}
	b := smallShare()
	checkGiven(t, shareLeave, b, "a", "", sharing("jar keg tun vat", "b tun! vat", "c jar keg vat"))
	checkGiven(t, shareLeave, b, "b", "", sharing("jar keg tun vat", "a keg! tun", "c jar keg vat"))
	checkGiven(t, shareLeave, b, "c", "", sharing("jar keg tun vat", "a keg! tun", "b tun! vat"))
	checkGiven(t, shareLeave, sharing("keg", "a keg!"), "a", "", sharing("keg"))
}

func TestLeavingThatMeetsSeveralCodes(t *testing.T) {
	eachMetReason(strings.Fields("book nobody"), []int{1, 3}, func(met map[string]bool, code int) {
		b := sharing("p q", "a p!", choose(met["book"], "b p!", "b q!"))
		checkCodeOf(t, plea{b, shareLeave, choose(met["nobody"], "c", "a"), nil}, code)
	})
}

// isPicked says whether names are some of others, in their order and each once at most.
func isPicked(names, of []string) bool {
	for bits := range 1 << len(of) {
		if slices.Equal(pick(of, bits), names) {
			return true
		}
	}
	return false
}

// wouldBe is the book behind a call, whatever is against it; who is named must be there, or must not, as the call has it.
func wouldBe(p plea) impl.ShareBook {
	b := impl.ShareBook{Things: p.Book.Things}
	for _, one := range p.Book.Batches {
		if one.Name != p.Name {
			b.Batches = append(b.Batches, one)
			continue
		}
		switch p.Call {
		case shareAsk:
			one.Has = slices.Concat(one.Has, p.Names)
			slices.Sort(one.Has)
			one.Has = slices.Compact(one.Has)
			b.Batches = append(b.Batches, one)
		case shareLess:
			one.Has = slices.DeleteFunc(slices.Clone(one.Has), func(thing string) bool { return !slices.Contains(p.Names, thing) })
			one.Needs = p.Names
			b.Batches = append(b.Batches, one)
		}
	}
	if p.Call == shareEnter {
		b.Batches = append(b.Batches, impl.ShareBatch{Name: p.Name, Needs: p.Names})
		slices.SortFunc(b.Batches, func(a, b impl.ShareBatch) int { return strings.Compare(a.Name, b.Name) })
	}
	return b
}

func isSafeByDefinition(b impl.ShareBook) bool {
	_, all := orderByDefinition(b)
	return all
}

// enterCodeByDefinition and pleaCodeByDefinition read the chapter a second time, for books that are ok.
func enterCodeByDefinition(p plea) int {
	switch {
	case !ascendingNames([]string{p.Name}, 1) || !isPicked(p.Names, p.Book.Things):
		return 2
	case slices.Contains(namesOfBatches(p.Book), p.Name):
		return 3
	case len(p.Book.Batches) == 5:
		return 4
	}
	return 0
}

func pleaCodeByDefinition(p plea) int {
	at := slices.Index(namesOfBatches(p.Book), p.Name)
	switch {
	case p.Call == shareEnter:
		return enterCodeByDefinition(p)
	case at < 0:
		return 3
	case p.Call == shareLeave:
		return 0
	case !isPicked(p.Names, p.Book.Batches[at].Needs):
		return 2
	case p.Call == shareLess:
		return 0
	}
	for _, thing := range p.Names {
		if who := whoByDefinition(p.Book, thing); who != "" && who != p.Name {
			return 5
		}
	}
	return choose(isSafeByDefinition(p.Book) && !isSafeByDefinition(wouldBe(p)), 6, 0)
}

func answerByDefinition(p plea) (impl.ShareBook, int) {
	if !shareByDefinition(p.Book) {
		return impl.ShareBook{}, 1
	}
	if code := pleaCodeByDefinition(p); code > 0 {
		return p.Book, code
	}
	return wouldBe(p), 0
}

// checkPleaByReading holds a call against the second reading of the chapter.
func checkPleaByReading(t *testing.T, what string, p plea) int {
	t.Helper()
	want, code := answerByDefinition(p)
	checkPlea(t, what, p, want, code)
	if code != 1 && !shareByDefinition(want) {
		t.Errorf("%s: the book is not ok behind it: %+v", what, want)
	}
	return code
}

// checkCodes asks for each code of each call, and some more, to have been met so many times.
func checkCodes(t *testing.T, met counts, least int, also ...int) {
	t.Helper()
	for call, codes := range map[shareCall][]int{shareEnter: {0, 2, 3, 4}, shareAsk: {0, 2, 3, 5, 6}, shareLess: {0, 2, 3}, shareLeave: {0, 3}} {
		for _, code := range append(codes, also...) {
			checkCounted(t, met, least, call.with(code))
		}
	}
}

func TestAllPleasInSmallBooks(t *testing.T) {
	met := counts{}
	for _, size := range []struct{ batches, things int }{{0, 2}, {1, 3}, {2, 2}, {2, 3}, {3, 2}, {4, 1}, {5, 1}} {
		things := numbered("t", size.things)
		// Ahead of all, between two, behind all, and none.
		names := append(numbered("b", size.batches), "a", "b10x", "z", "B")
		eachShare(size.batches, size.things, func(b impl.ShareBook) {
			for _, name := range names {
				met.note(shareLeave.with(checkPleaByReading(t, "small", plea{b, shareLeave, name, nil})), true)
				for _, call := range []shareCall{shareEnter, shareAsk, shareLess} {
					tell := func(list []string) {
						met.note(call.with(checkPleaByReading(t, "small", plea{b, call, name, list})), true)
					}
					eachOf(things, 2, tell)
					tell(append(slices.Clone(things), "z"))
					if size.things > 2 {
						tell(things)
					}
				}
			}
		})
	}
	checkCodes(t, met, 100)
}

// somePleas is calls that meet each code, and some that happen.
func somePleas() []plea {
	var all []plea
	add := func(b impl.ShareBook, call shareCall, texts ...string) {
		for _, text := range texts {
			name, names, _ := strings.Cut(text, ":")
			all = append(all, plea{b, call, name, strings.Fields(names)})
		}
	}
	b := sharing("jar keg tun vat", "b jar! keg", "d keg! tun", "f jar keg tun vat")
	add(b, shareEnter, "a:jar", "c:", "e:keg vat", "g:jar keg tun vat", ":jar", "c:vat jar", "d:jar")
	add(b, shareAsk, "b:jar", "d:keg tun", "f:vat", "f:", "c:keg", "f:vat tun", "f:jar", "f:tun", "f:tun vat")
	add(b, shareLess, "b:jar", "b:keg", "d:", "f:jar keg tun vat", "g:jar", "d:vat", "f:tun jar")
	add(b, shareLeave, "b:", "d:", "f:", "c:")
	add(fullShare(), shareEnter, "a:", "z:thing-10")
	add(sharing("p q r", "a p! q", "b p q!", "c r"), shareAsk, "c:r", "a:q")
	add(sharing("p", "a p!", "b p!"), shareAsk, "a:p", "b:")
	return all
}

func TestPleasOfWhichOneThingIsChanged(t *testing.T) {
	met := counts{}
	for _, from := range somePleas() {
		eachWithOneChange(from, textsOfAll(from), func(p plea) {
			met.note(p.Call.with(checkPleaByReading(t, "changed", p)), true)
		})
	}
	checkCodes(t, met, 10, 1)
}

func TestPleasOfWhichTwoThingsAreChanged(t *testing.T) {
	met := counts{}
	b := sharing("p q", "a p! q", "b p q")
	five := sharing("p", "a", "b", "c", "d", "e p")
	for _, from := range []plea{{b, shareAsk, "b", []string{"q"}}, {b, shareLess, "a", []string{"q"}}, {b, shareEnter, "c", []string{"p"}}, {b, shareLeave, "a", nil}, {five, shareEnter, "f", []string{"p"}}} {
		eachWithOneChange(from, []string{"a", "b", "c", "p", "q", ""}, func(p plea) {
			eachWithOneChange(p, []string{"a", "b", "c", "p", "q", ""}, func(p plea) {
				met.note(p.Call.with(checkPleaByReading(t, "changed twice", p)), true)
			})
		})
	}
	checkCodes(t, met, 10, 1)
}

// drawnPlea draws a call that is wrong in some way now and then.
func drawnPlea(dice *rand.Rand, b impl.ShareBook) plea {
	p := plea{Book: b, Call: allCalls()[dice.Intn(4)], Name: []string{"", "a", "b10x", "z", "Z"}[dice.Intn(5)]}
	if names := namesOfBatches(b); len(names) > 0 && dice.Intn(8) > 0 {
		p.Name = names[dice.Intn(len(names))]
	}
	of := b.Things
	if at := slices.Index(namesOfBatches(b), p.Name); at >= 0 && p.Call != shareEnter && dice.Intn(8) > 0 {
		of = b.Batches[at].Needs
	}
	p.Names = pick(of, dice.Intn(1<<len(of)))
	if p.Call == shareAsk {
		p.Names = pick(p.Names, dice.Intn(1<<len(p.Names)))
	}
	if len(p.Names) > 1 && dice.Intn(10) == 0 {
		p.Names[0], p.Names[1] = p.Names[1], p.Names[dice.Intn(2)]
	}
	return p
}

func TestDrawnPleas(t *testing.T) {
	dice := rand.New(rand.NewSource(53))
	met := counts{}
	for range 100000 {
		p := drawnPlea(dice, drawnShare(dice, dice.Intn(11)))
		met.note(p.Call.with(checkPleaByReading(t, "drawn", p)), true)
	}
	checkCodes(t, met, 100)
}

// pleasOfAllBooks tells calls in books that are ok and that are not, right ones and wrong ones.
func pleasOfAllBooks(tell func(p plea)) {
	books := spoiltShares()
	for _, b := range someShares() {
		books = append(books, b)
	}
	for _, p := range somePleas() {
		tell(p)
	}
	for _, b := range books {
		for _, call := range allCalls() {
			for _, name := range append(namesOfBatches(b), "m", "") {
				tell(plea{b, call, name, nil})
				tell(plea{b, call, name, b.Things})
				tell(plea{b, call, name, []string{"p"}})
			}
			for _, one := range b.Batches {
				tell(plea{b, call, one.Name, one.Needs})
				tell(plea{b, call, one.Name, one.Has})
			}
		}
	}
}

func TestPleasLeaveTheirArguments(t *testing.T) {
	pleasOfAllBooks(func(asked plea) {
		p := withRoom(asked)
		was := withWhatIsBehind(p)
		first, code := p.answer()
		checkPlea(t, "a second time", p, first, code)
		checkPlea(t, "without room", asked, first, code)
		if !reflect.DeepEqual(withWhatIsBehind(p), was) {
			t.Errorf("what was asked became %+v", withWhatIsBehind(p))
		}
	})
}

func TestBooksBehindPleasAreNewMemory(t *testing.T) {
	pleasOfAllBooks(func(asked plea) {
		p := withRoom(asked)
		p.Name = strings.Clone(p.Name)
		first, code := p.answer()
		second, _ := p.answer()
		what := fmt.Sprintf("%+v, %d", p, code)
		checkOwnMemory(t, what, first, p)
		checkOwnLists(t, what, first, p)
		checkOwnMemory(t, what, second, first, p)
		checkOwnLists(t, what, second, first, p)
		third, _ := plea{first, p.Call, p.Name, p.Names}.answer()
		checkOwnMemory(t, what, third, first, second, p)
		checkOwnLists(t, what, third, first, second, p)
		// What stands behind the end of the batches must not lie where one of them does, either.
		whole := impl.ShareBook{Things: first.Things, Batches: first.Batches[:cap(first.Batches)]}
		checkOwnLists(t, what, whole, p)
		spoilTexts(first.Things)
		for _, one := range first.Batches {
			spoilTexts(one.Has)
			spoilTexts(one.Needs)
		}
		checkPlea(t, "behind an answer that was written into", p, second, code)
	})
}

func TestPleasOfVeryLongLists(t *testing.T) {
	long := 100000
	var names []string
	for i := range long {
		names = append(names, strconv.Itoa(1000000+i))
	}
	b := smallShare()
	for _, list := range [][]string{names, make([]string, long), slices.Repeat([]string{"keg"}, long), slices.Repeat(b.Things, long), {strings.Repeat("k", 1<<20)}} {
		checkNotGiven(t, shareEnter, b, "d", list, 2)
		checkNotGiven(t, shareAsk, b, "a", list, 2)
		checkNotGiven(t, shareLess, b, "a", list, 2)
		checkNotGiven(t, shareAsk, b, "none", list, 3)
		for _, call := range allCalls() {
			checkNotGiven(t, call, impl.ShareBook{Things: list}, "a", list, 1)
			checkNotGiven(t, call, impl.ShareBook{Things: b.Things, Batches: []impl.ShareBatch{{Name: "a", Needs: list}}}, "a", nil, 1)
		}
	}
	name := strings.Repeat("a", 1<<20)
	checkNotGiven(t, shareEnter, b, name, nil, 2)
	for _, call := range []shareCall{shareAsk, shareLess, shareLeave} {
		checkNotGiven(t, call, b, name, nil, 3)
	}
}

// What one call was given must not be seen in the next one, nor in one beside it.
func TestPleasKeepNothing(t *testing.T) {
	pleas, wrong := somePleas(), spoiltShares()
	var books []impl.ShareBook
	var codes []int
	for _, p := range pleas {
		after, code := answerByDefinition(p)
		books, codes = append(books, after), append(codes, code)
	}
	var callers sync.WaitGroup
	for range 8 {
		callers.Go(func() {
			for i := range 10 {
				for j, p := range pleas {
					checkPlea(t, "one beside others", p, books[j], codes[j])
					checkPlea(t, "a wrong book between", plea{wrong[(i+j)%len(wrong)], p.Call, p.Name, p.Names}, impl.ShareBook{}, 1)
				}
			}
		})
	}
	callers.Wait()
}
