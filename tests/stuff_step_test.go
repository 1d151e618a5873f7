package tests

import (
	"fmt"
	"math"
	"slices"
	"strconv"
	"strings"
	"testing"

	"loop.example/malthouse/impl"
)

func makes(name, stuff, to string, amount int) impl.StuffEvent {
	return impl.StuffEvent{Kind: impl.StuffMakes, Name: name, Stuff: stuff, To: to, Amount: amount}
}

func moves(from, to string, amount int) impl.StuffEvent {
	return impl.StuffEvent{Kind: impl.StuffMoves, From: from, To: to, Amount: amount}
}

func takes(name, from string, amount int) impl.StuffEvent {
	return impl.StuffEvent{Kind: impl.StuffTakes, Name: name, From: from, Amount: amount}
}

func cleans(to string) impl.StuffEvent {
	return impl.StuffEvent{Kind: impl.StuffCleans, To: to}
}

// sameBook goes by what is in the lists, as the empty list and the nil list are the same.
func sameBook(a, b impl.StuffBook) bool {
	sameIn := func(p, q []impl.StuffPart, may, other []string) bool {
		return slices.Equal(p, q) && slices.Equal(may, other)
	}
	return slices.Equal(a.Foes, b.Foes) && slices.Equal(a.Lots, b.Lots) &&
		slices.EqualFunc(a.Vessels, b.Vessels, func(v, w impl.StuffVessel) bool {
			return v.Name == w.Name && v.Cap == w.Cap && sameIn(v.Parts, w.Parts, v.May, w.May)
		}) &&
		slices.EqualFunc(a.Outs, b.Outs, func(o, u impl.StuffOut) bool {
			return o.Name == u.Name && sameIn(o.Parts, u.Parts, o.May, u.May)
		})
}

func checkStep(t *testing.T, b impl.StuffBook, e impl.StuffEvent, want impl.StuffBook, code int) {
	t.Helper()
	if got, is := impl.StuffStep(b, e); is != code || !sameBook(got, want) {
		t.Errorf("StuffStep of %+v\nin %+v\n = %+v, %d\nwant %+v, %d", e, b, got, is, want, code)
	}
}

// checkStays tells that an event has a code, and that the book stays as it is.
func checkStays(t *testing.T, b impl.StuffBook, e impl.StuffEvent, code int) {
	t.Helper()
	checkStep(t, b, e, b, code)
}

// checkHappens tells what becomes of the vessels and outs that are named; all others stay.
func checkHappens(t *testing.T, b impl.StuffBook, e impl.StuffEvent, change func(b *impl.StuffBook)) {
	t.Helper()
	want := clonedBook(b)
	change(&want)
	checkStep(t, b, e, want, 0)
}

// inVessels is a book in which there are lots p to t of stuff x, and vessels.
func inVessels(vessels ...impl.StuffVessel) impl.StuffBook {
	return impl.StuffBook{Foes: foes("a/b"), Lots: lots("p:x q:x r:x s:x t:x"), Vessels: vessels}
}

func TestMaking(t *testing.T) {
	b := smallBook()
	checkHappens(t, b, makes("l0", "lye", "yard", 1), func(b *impl.StuffBook) {
		b.Lots = lots("a1:ale a2:ale l0:lye l1:lye m1:malt w1:water")
		b.Vessels[3] = vessel("yard", 1000, "l0:1", "l0")
	})
	checkHappens(t, b, makes("0", "wort", "yard", 1000), func(b *impl.StuffBook) {
		b.Lots = lots("0:wort a1:ale a2:ale l1:lye m1:malt w1:water")
		b.Vessels[3] = vessel("yard", 1000, "0:1000", "0")
	})
	checkHappens(t, b, makes("zzzzzzzz", "new", "tun", 1), func(b *impl.StuffBook) {
		b.Lots = lots("a1:ale a2:ale l1:lye m1:malt w1:water zzzzzzzz:new")
		b.Vessels[1] = vessel("tun", 20, "m1:19 zzzzzzzz:1", "l1 m1 w1 zzzzzzzz")
	})
	// May of the vat has more than its Parts: the new lot is ahead in the one, and alone in the other.
	checkHappens(t, b, makes("vat", "vat", "vat", 1), func(b *impl.StuffBook) {
		b.Lots = lots("a1:ale a2:ale l1:lye m1:malt vat:vat w1:water")
		b.Vessels[2] = vessel("vat", 1, "vat:1", "vat w1")
	})
}

func TestMakingAheadBetweenAndBehind(t *testing.T) {
	for _, c := range []struct{ name, in, may, all string }{
		{"m", "m:3 n:1 r:2", "m n p r", "m:x n:x p:x r:x"},
		{"nn", "n:1 nn:3 r:2", "n nn p r", "n:x nn:x p:x r:x"},
		{"q", "n:1 q:3 r:2", "n p q r", "n:x p:x q:x r:x"},
		{"r-", "n:1 r:2 r-:3", "n p r r-", "n:x p:x r:x r-:x"},
	} {
		b := impl.StuffBook{Lots: lots("n:x p:x r:x"), Vessels: []impl.StuffVessel{vessel("u", 9, "", ""), vessel("v", 9, "n:1 r:2", "n p r")}}
		checkHappens(t, b, makes(c.name, "x", "v", 3), func(b *impl.StuffBook) {
			b.Lots, b.Vessels[1] = lots(c.all), vessel("v", 9, c.in, c.may)
		})
	}
}

func TestMovingAndTakingByShares(t *testing.T) {
	for _, c := range []struct {
		in          string
		amount      int
		left, moved string
	}{
		{"p:20 q:11", 10, "p:14 q:7", "p:6 q:4"},
		{"p:7 q:2 r:1", 5, "p:3 q:1 r:1", "p:4 q:1"},
		{"p:7 q:2 r:1", 9, "p:1", "p:6 q:2 r:1"},
		{"p:1 q:1 r:1", 1, "q:1 r:1", "p:1"},
		{"p:1 q:1 r:1", 2, "r:1", "p:1 q:1"},
		{"p:1 q:2 r:3 s:4 t:5", 1, "p:1 q:2 r:3 s:4 t:4", "t:1"},
		{"p:1 q:2 r:3 s:4 t:5", 2, "p:1 q:2 r:3 s:3 t:4", "s:1 t:1"},
		{"p:9 q:1 r:1", 10, "p:1", "p:8 q:1 r:1"},
		{"p:1 q:9", 5, "q:5", "p:1 q:4"},
		{"p:1 q:9", 4, "p:1 q:5", "q:4"},
		{"q:5", 5, "", "q:5"},
		{"q:5", 4, "q:1", "q:4"},
		{"p:1 s:999", 1000, "", "p:1 s:999"},
		{"p:1 s:999", 999, "s:1", "p:1 s:998"},
		{"p:1 s:999", 1, "p:1 s:998", "s:1"},
	} {
		b := inVessels(vessel("u", 1000, "", ""), vessel("v", 1000, c.in, "p q r s t"))
		checkHappens(t, b, moves("v", "u", c.amount), func(b *impl.StuffBook) {
			b.Vessels = []impl.StuffVessel{vessel("u", 1000, c.moved, "p q r s t"), vessel("v", 1000, c.left, "p q r s t")}
		})
		checkHappens(t, b, takes("o", "v", c.amount), func(b *impl.StuffBook) {
			b.Vessels[1] = vessel("v", 1000, c.left, "p q r s t")
			b.Outs = []impl.StuffOut{out("o", c.moved, "p q r s t")}
		})
	}
}

func TestMovingToWhatIsThere(t *testing.T) {
	for _, c := range []struct {
		in, may       string
		there, left   string
		then, thenMay string
	}{
		{"q:6", "q", "", "", "q:6", "q"},
		{"q:6", "q", "q:3", "q", "q:9", "q"},
		{"q:6", "q", "r:3", "r", "q:6 r:3", "q r"},
		{"q:6", "q", "p:3", "p", "p:3 q:6", "p q"},
		{"q:6", "q", "p:3 r:1", "p r", "p:3 q:6 r:1", "p q r"},
		{"q:6", "q", "p:3 q:1 r:1", "p q r s", "p:3 q:7 r:1", "p q r s"},
		{"p:3 t:3", "p t", "q:1 r:2 s:3", "q r s", "p:3 q:1 r:2 s:3 t:3", "p q r s t"},
		{"p:1 q:2 r:3", "p q r", "p:3 q:2 r:1", "p q r", "p:4 q:4 r:4", "p q r"},
		{"p:1 r:2 t:3", "p r t", "q:3 s:2", "q s", "p:1 q:3 r:2 s:2 t:3", "p q r s t"},
		// What may be left goes with it, though nothing of it is there.
		{"q:6", "p q t", "", "", "q:6", "p q t"},
		{"q:6", "p q t", "r:1", "q r s", "q:6 r:1", "p q r s t"},
		{"q:6", "p q", "", "s t", "q:6", "p q s t"},
		{"q:6", "q s t", "", "p", "q:6", "p q s t"},
	} {
		b := inVessels(vessel("from", 99, c.in, c.may), vessel("next", 99, "p:1", "p q"), vessel("to", 99, c.there, c.left))
		checkHappens(t, b, moves("from", "to", 6), func(b *impl.StuffBook) {
			b.Vessels[0], b.Vessels[2] = vessel("from", 99, "", c.may), vessel("to", 99, c.then, c.thenMay)
		})
		// The other way round the names are the other way round.
		b = inVessels(vessel("a", 99, c.there, c.left), vessel("b", 99, "p:1", "p q"), vessel("c", 99, c.in, c.may))
		checkHappens(t, b, moves("c", "a", 6), func(b *impl.StuffBook) {
			b.Vessels[2], b.Vessels[0] = vessel("c", 99, "", c.may), vessel("a", 99, c.then, c.thenMay)
		})
	}
}

// Of a share of 0 nothing is put, but the lot comes into May, as something of it may have gone with the rest.
func TestSharesOfNothing(t *testing.T) {
	b := inVessels(vessel("u", 9, "r:1", "r"), vessel("v", 99, "p:1 q:50", "p q"))
	checkHappens(t, b, moves("v", "u", 2), func(b *impl.StuffBook) {
		b.Vessels[0], b.Vessels[1] = vessel("u", 9, "q:2 r:1", "p q r"), vessel("v", 99, "p:1 q:48", "p q")
	})
	checkHappens(t, b, takes("o", "v", 2), func(b *impl.StuffBook) {
		b.Vessels[1], b.Outs = vessel("v", 99, "p:1 q:48", "p q"), []impl.StuffOut{out("o", "q:2", "p q")}
	})
	b.Vessels[0] = vessel("u", 9, "p:4", "p")
	checkHappens(t, b, moves("v", "u", 2), func(b *impl.StuffBook) {
		b.Vessels[0], b.Vessels[1] = vessel("u", 9, "p:4 q:2", "p q"), vessel("v", 99, "p:1 q:48", "p q")
	})
}

func TestAllThatAVesselHolds(t *testing.T) {
	b := smallBook()
	checkHappens(t, b, moves("keg", "yard", 30), func(b *impl.StuffBook) {
		b.Vessels[0], b.Vessels[3] = vessel("keg", 30, "", "a1 a2 w1"), vessel("yard", 1000, "a1:10 a2:5 w1:15", "a1 a2 w1")
	})
	checkStays(t, b, moves("keg", "yard", 31), 6)
	checkHappens(t, b, takes("o", "keg", 30), func(b *impl.StuffBook) {
		b.Vessels[0] = vessel("keg", 30, "", "a1 a2 w1")
		b.Outs = []impl.StuffOut{b.Outs[0], b.Outs[1], out("o", "a1:10 a2:5 w1:15", "a1 a2 w1"), b.Outs[2]}
	})
	checkStays(t, b, takes("o", "keg", 31), 6)
	// What is empty, but may hold traces, has nothing to give.
	checkStays(t, b, moves("vat", "yard", 1), 6)
	checkStays(t, b, takes("o", "vat", 1), 6)
	checkStays(t, b, moves("yard", "keg", 1), 6)
	checkStays(t, b, takes("o", "yard", 1), 6)
}

func TestTakingAheadBetweenAndBehind(t *testing.T) {
	b := smallBook()
	more := func(name string) impl.StuffOut { return out(name, "m1:2", "l1 m1 w1") }
	for _, c := range []struct {
		name string
		at   int
	}{{"-", 0}, {"cu", 0}, {"cup0", 1}, {"j", 1}, {"ju", 1}, {"jug-", 2}, {"tun-", 3}, {"q", 3}, {"l1", 2}, {"malt", 2}, {"zzzzzzzz", 3}} {
		checkHappens(t, b, takes(c.name, "tun", 2), func(b *impl.StuffBook) {
			b.Vessels[1] = vessel("tun", 20, "m1:17", "l1 m1 w1")
			b.Outs = slices.Insert(b.Outs, c.at, more(c.name))
		})
	}
	b.Outs = nil
	checkHappens(t, b, takes("o", "tun", 2), func(b *impl.StuffBook) {
		b.Vessels[1], b.Outs = vessel("tun", 20, "m1:17", "l1 m1 w1"), []impl.StuffOut{more("o")}
	})
}

func TestCleaning(t *testing.T) {
	b := smallBook()
	checkStays(t, b, cleans("keg"), 9)
	checkStays(t, b, cleans("tun"), 9)
	checkHappens(t, b, cleans("vat"), func(b *impl.StuffBook) { b.Vessels[2].May = nil })
	checkStays(t, b, cleans("yard"), 0)
	b.Vessels[0].Parts, b.Vessels[1].Parts = nil, parts("w1:1")
	checkHappens(t, b, cleans("keg"), func(b *impl.StuffBook) { b.Vessels[0].May = nil })
	checkStays(t, b, cleans("tun"), 9)
	for _, name := range []string{"", "none", "cup", "pan", "a1", "ale", "ke", "kegs", "KEG", "\xff"} {
		checkStays(t, b, cleans(name), 3)
	}
}

func TestOnlyWhatAKindNamesCounts(t *testing.T) {
	b := smallBook()
	for _, rubbish := range []string{"", "keg", "none", "Wrong", "a1", "cup"} {
		e := makes("b1", "beer", "yard", 4)
		e.From = rubbish
		checkHappens(t, b, e, func(b *impl.StuffBook) {
			b.Lots, b.Vessels[3] = lots("a1:ale a2:ale b1:beer l1:lye m1:malt w1:water"), vessel("yard", 1000, "b1:4", "b1")
		})
		e = moves("tun", "yard", 19)
		e.Name, e.Stuff = rubbish, rubbish
		checkHappens(t, b, e, func(b *impl.StuffBook) {
			b.Vessels[1], b.Vessels[3] = vessel("tun", 20, "", "l1 m1 w1"), vessel("yard", 1000, "m1:19", "l1 m1 w1")
		})
		e = takes("zip", "tun", 19)
		e.To, e.Stuff = rubbish, rubbish
		checkHappens(t, b, e, func(b *impl.StuffBook) {
			b.Vessels[1], b.Outs = vessel("tun", 20, "", "l1 m1 w1"), append(b.Outs, out("zip", "m1:19", "l1 m1 w1"))
		})
		for _, amount := range []int{math.MinInt, -1, 0, 1, 1001, math.MaxInt} {
			e = cleans("vat")
			e.Name, e.Stuff, e.From, e.Amount = rubbish, rubbish, rubbish, amount
			checkHappens(t, b, e, func(b *impl.StuffBook) { b.Vessels[2].May = nil })
		}
	}
}

func TestEventsOfNoKind(t *testing.T) {
	b := smallBook()
	for _, kind := range []int{0, -1, 5, 6, math.MinInt, math.MaxInt, 1 << 32, 1<<32 + 1, -3} {
		for _, e := range []impl.StuffEvent{{}, makes("b1", "beer", "yard", 4), moves("tun", "yard", 1), takes("zip", "tun", 1), cleans("vat"), cleans("none")} {
			e.Kind = kind
			checkStays(t, b, e, 2)
			checkStays(t, impl.StuffBook{}, e, 2)
		}
	}
}

func TestEventsInTheEmptyBook(t *testing.T) {
	for _, name := range []string{"", "a", "keg"} {
		checkStays(t, impl.StuffBook{}, makes("p", "x", name, 1), 3)
		checkStays(t, impl.StuffBook{}, moves(name, "b", 1), 3)
		checkStays(t, impl.StuffBook{}, takes("o", name, 1), 3)
		checkStays(t, impl.StuffBook{}, cleans(name), 3)
	}
}

func TestMakingWithWrongNamesAndAmounts(t *testing.T) {
	b := impl.StuffBook{Lots: lots("lot:x"), Vessels: []impl.StuffVessel{vessel("vessel", 9, "lot:5", "lot")}}
	eachText(func(text string, isName bool) {
		for _, e := range []impl.StuffEvent{makes(text, "x", "vessel", 1), makes("x", text, "vessel", 1), takes(text, "vessel", 1)} {
			if !isName {
				checkStays(t, b, e, 2)
			} else if _, is := impl.StuffStep(b, e); is != 0 {
				t.Errorf("the code of %+v is %d", e, is)
			}
		}
	})
	b = smallBook()
	for amount, ok := range atEnds() {
		if !ok {
			checkStays(t, b, makes("x", "x", "yard", amount), 2)
			continue
		}
		checkHappens(t, b, makes("x", "x", "yard", amount), func(b *impl.StuffBook) {
			b.Lots = append(b.Lots, impl.StuffLot{Name: "x", Stuff: "x"})
			b.Vessels[3] = vessel("yard", 1000, "x:"+strconv.Itoa(amount), "x")
		})
	}
}

func TestAmountsThatAreMovedAndTaken(t *testing.T) {
	b := inVessels(vessel("u", 1000, "", ""), vessel("v", 1000, "p:1000", "p"))
	for amount, ok := range atEnds() {
		code := 0
		if amount < 1 {
			code = 2
		} else if !ok {
			code = 6
		}
		for _, e := range []impl.StuffEvent{moves("v", "u", amount), takes("o", "v", amount)} {
			if code > 0 {
				checkStays(t, b, e, code)
			} else if _, is := impl.StuffStep(b, e); is != 0 {
				t.Errorf("the code of %+v is %d", e, is)
			}
		}
	}
}

func TestToThatIsFullOrWouldBe(t *testing.T) {
	for most, held := range map[int]int{1: 0, 2: 1, 9: 4, 10: 10, 1000: 999, 999: 1, 998: 0, 500: 500} {
		v := vessel("v", most, "", "p")
		if held > 0 {
			v.Parts = []impl.StuffPart{{Lot: "p", Amount: held}}
		}
		b := inVessels(vessel("u", 1000, "q:1000", "q"), v)
		for amount := range 1002 {
			want := 0
			if amount < 1 || amount > 1000 {
				want = 2
			} else if held+amount > most {
				want = 7
			}
			if _, is := impl.StuffStep(b, makes("n", "x", "v", amount)); is != want {
				t.Errorf("made: %d in a vessel of %d, in which is %d: %d; want %d", amount, most, held, is, want)
			}
			if amount > 1000 {
				want = 6
			}
			if _, is := impl.StuffStep(b, moves("u", "v", amount)); is != want {
				t.Errorf("moved: %d into a vessel of %d, in which is %d: %d; want %d", amount, most, held, is, want)
			}
		}
	}
}

func TestVesselsThatAreNone(t *testing.T) {
	b := smallBook()
	for _, none := range []string{"", "none", "cup", "pan", "a1", "ale", "ke", "kegs", "Keg", "keg ", "\xff", strings.Repeat("keg", 100000)} {
		checkStays(t, b, makes("x", "x", none, 1), 3)
		checkStays(t, b, moves(none, "yard", 1), 3)
		checkStays(t, b, moves("tun", none, 1), 3)
		checkStays(t, b, moves(none, "none2", 1), 3)
		checkStays(t, b, moves(none, none, 1), 2)
		checkStays(t, b, takes("x", none, 1), 3)
		checkStays(t, b, cleans(none), 3)
	}
}

func TestVesselsMovedToThemselves(t *testing.T) {
	b := smallBook()
	for _, v := range b.Vessels {
		for _, amount := range []int{math.MinInt, -1, 0, 1, 5, 19, 20, 31, 1000, math.MaxInt} {
			checkStays(t, b, moves(v.Name, v.Name, amount), 2)
		}
	}
}

func TestNamesThatAreTaken(t *testing.T) {
	b := smallBook()
	for _, l := range b.Lots {
		checkStays(t, b, makes(l.Name, l.Stuff, "yard", 1), 4)
		checkStays(t, b, makes(l.Name, "other", "yard", 1), 4)
	}
	for _, v := range b.Vessels {
		checkStays(t, b, takes(v.Name, "tun", 1), 4)
	}
	for _, o := range b.Outs {
		checkStays(t, b, takes(o.Name, "tun", 1), 4)
	}
	// A lot may have the name of anything else, and so may an out of what is no vessel.
	for _, name := range []string{"keg", "cup", "ale", "water"} {
		if _, is := impl.StuffStep(b, makes(name, "x", "yard", 1)); is != 0 {
			t.Errorf("a lot %s: %d", name, is)
		}
	}
	for _, name := range []string{"a1", "w1", "ale", "lye"} {
		if _, is := impl.StuffStep(b, takes(name, "tun", 1)); is != 0 {
			t.Errorf("an out %s: %d", name, is)
		}
	}
}

func TestAsManyLotsAndOutsAsMayBe(t *testing.T) {
	b := impl.StuffBook{Vessels: []impl.StuffVessel{vessel("v", 1000, "", "")}}
	for i := range impl.StuffMaxLots {
		name := "lot" + strconv.Itoa(30-i)
		checkHappens(t, b, makes(name, "x", "v", 2), func(b *impl.StuffBook) {
			b.Lots = slices.Insert(b.Lots, 0, impl.StuffLot{Name: name, Stuff: "x"})
			b.Vessels[0].Parts = slices.Insert(b.Vessels[0].Parts, 0, impl.StuffPart{Lot: name, Amount: 2})
			b.Vessels[0].May = slices.Insert(b.Vessels[0].May, 0, name)
		})
		b, _ = impl.StuffStep(b, makes(name, "x", "v", 2))
	}
	checkStays(t, b, makes("one-more", "x", "v", 2), 5)
	for i := range impl.StuffMaxOuts {
		name := "out" + strconv.Itoa(30-i)
		after, code := impl.StuffStep(b, takes(name, "v", 1))
		if code != 0 || len(after.Outs) != i+1 || after.Outs[0].Name != name || len(after.Outs[0].May) != impl.StuffMaxLots {
			t.Fatalf("out %d: %d, %+v", i, code, after)
		}
		b = after
	}
	checkStays(t, b, takes("one-more", "v", 1), 5)
	// There is no place for one more, though nothing of all lots is left in the vessel.
	b.Vessels[0] = vessel("v", 1000, "", "")
	checkStays(t, b, makes("one-more", "x", "v", 2), 5)
	full := fullBook()
	checkStays(t, full, makes("one-more", "a", "vessel-a", 1), 5)
	checkStays(t, full, takes("one-more", "vessel-a", 1), 5)
}

func TestFoesInEitherOrder(t *testing.T) {
	for _, c := range []struct{ stuff, other string }{{"ale", "lye"}, {"lye", "ale"}, {"ale", "malt"}, {"malt", "ale"}, {"lye", "wort"}, {"wort", "lye"}} {
		for _, in := range []string{"", "n:1"} {
			b := impl.StuffBook{Foes: foes("ale/lye", "ale/malt", "lye/wort"), Lots: []impl.StuffLot{{Name: "n", Stuff: c.other}, {Name: "p", Stuff: c.stuff}}}
			b.Vessels = []impl.StuffVessel{vessel("u", 9, "p:2", "p"), vessel("v", 9, in, "n")}
			checkStays(t, b, makes("x", c.stuff, "v", 1), 8)
			checkStays(t, b, moves("u", "v", 1), 8)
			checkStays(t, b, moves("u", "v", 2), 8)
			b.Vessels = []impl.StuffVessel{vessel("u", 9, in, "n"), vessel("v", 9, "p:2", "p")}
			checkStays(t, b, moves("v", "u", 1), 8)
		}
	}
	for _, c := range []struct{ stuff, other string }{{"ale", "ale"}, {"malt", "lye"}, {"wort", "ale"}, {"malt", "wort"}, {"x", "ale"}, {"x", "y"}, {"p", "n"}, {"u", "v"}} {
		b := impl.StuffBook{Foes: foes("ale/lye", "ale/malt", "lye/wort", "n/x"), Lots: []impl.StuffLot{{Name: "n", Stuff: c.other}, {Name: "p", Stuff: c.stuff}}}
		b.Vessels = []impl.StuffVessel{vessel("u", 9, "p:2", "p"), vessel("v", 9, "n:1", "n")}
		for _, e := range []impl.StuffEvent{makes("x", c.stuff, "v", 1), moves("u", "v", 1), moves("v", "u", 1)} {
			if _, is := impl.StuffStep(b, e); is != 0 {
				t.Errorf("%s and %s: %+v: %d", c.stuff, c.other, e, is)
			}
		}
	}
}

// Foes that stand in May alone count as those do of which something is there: in the one, in the other, and in both.
func TestFoesThatStandInMayAlone(t *testing.T) {
	book := func(u, v impl.StuffVessel) impl.StuffBook {
		return impl.StuffBook{Foes: foes("a/b"), Lots: lots("p:a q:b r:x"), Vessels: []impl.StuffVessel{u, v}}
	}
	for _, u := range []impl.StuffVessel{vessel("u", 9, "p:2", "p"), vessel("u", 9, "p:1 r:1", "p r"), vessel("u", 9, "r:2", "p r")} {
		for _, v := range []impl.StuffVessel{vessel("v", 9, "q:1", "q"), vessel("v", 9, "", "q"), vessel("v", 9, "r:1", "q r"), vessel("v", 9, "", "q r")} {
			b := book(u, v)
			checkStays(t, b, moves("u", "v", 1), 8)
			checkStays(t, b, makes("n", "a", "v", 1), 8)
			checkStays(t, b, makes("n", "b", "u", 1), 8)
			if len(v.Parts) > 0 {
				checkStays(t, b, moves("v", "u", 1), 8)
				continue
			}
			// What was cleaned meets nothing any more.
			b, _ = impl.StuffStep(b, cleans("v"))
			checkHappens(t, b, moves("u", "v", 2), func(b *impl.StuffBook) {
				b.Vessels[0].Parts, b.Vessels[1].Parts, b.Vessels[1].May = nil, u.Parts, u.May
			})
		}
	}
}

// An out meets nobody: what is in it, and what it is called, is nothing to what comes behind it.
func TestFoesAmongOuts(t *testing.T) {
	b := impl.StuffBook{Foes: foes("a/b"), Lots: lots("p:a q:b"), Vessels: []impl.StuffVessel{vessel("u", 9, "p:2", "p"), vessel("v", 9, "q:1", "q")}}
	after, codes := impl.StuffPlay(b, []impl.StuffEvent{takes("o", "u", 1), takes("n", "v", 1)})
	want := clonedBook(b)
	want.Vessels[0].Parts, want.Vessels[1].Parts = parts("p:1"), nil
	want.Outs = []impl.StuffOut{out("n", "q:1", "q"), out("o", "p:1", "p")}
	if !slices.Equal(codes, []int{0, 0}) || !sameBook(after, want) {
		t.Errorf("%v, %+v", codes, after)
	}
}

// firstOf is the first code that is met, in the order in which they stand in the table.
func firstOf(met map[int]bool) int {
	for code := range 10 {
		if met[code] {
			return code
		}
	}
	return 0
}

// eachMet tells all choices of some codes.
func eachMet(codes []int, tell func(met map[int]bool)) {
	for bits := range 1 << len(codes) {
		met := map[int]bool{}
		for _, code := range pick(codes, bits) {
			met[code] = true
		}
		tell(met)
	}
}

// choose is a text, or a number, by whether a code is met.
func choose[T any](met bool, then, other T) T {
	if met {
		return then
	}
	return other
}

func checkCode(t *testing.T, what string, b impl.StuffBook, e impl.StuffEvent, code int) {
	t.Helper()
	checkBook(t, what, b, true)
	if code > 0 {
		checkStays(t, b, e, code)
	} else if after, is := impl.StuffStep(b, e); is != 0 || !impl.StuffBookOk(after) {
		t.Errorf("%s: StuffStep of %+v in %+v = %d", what, e, b, is)
	}
}

func TestMakingThatMeetsSeveralCodes(t *testing.T) {
	eachMet([]int{2, 3, 4, 5, 7, 8}, func(met map[int]bool) {
		b := impl.StuffBook{Foes: foes("a/b"), Lots: lots("p:b")}
		for i := range impl.StuffMaxLots - 1 - choose(met[5], 0, 1) {
			b.Lots = append(b.Lots, impl.StuffLot{Name: "q" + strconv.Itoa(10+i), Stuff: "x"})
		}
		b.Vessels = []impl.StuffVessel{vessel("v", 10, "p:6", "p")}
		e := makes(choose(met[4], "p", "n"), choose(met[8], "a", "x"), choose(met[3], "none", "v"), choose(met[7], 5, 4))
		if met[2] {
			e.Amount = 1001
		}
		checkCode(t, fmt.Sprint("made ", met), b, e, firstOf(met))
	})
	// Of code 2 each reason counts, ahead of each other code.
	b := impl.StuffBook{Foes: foes("a/b"), Lots: lots("p:b"), Vessels: []impl.StuffVessel{vessel("v", 10, "p:6", "p")}}
	for i := range impl.StuffMaxLots - 1 {
		b.Lots = append(b.Lots, impl.StuffLot{Name: "q" + strconv.Itoa(10+i), Stuff: "x"})
	}
	for _, e := range []impl.StuffEvent{makes("P", "a", "v", 5), makes("", "a", "none", 5), makes("p", "", "v", 5), makes("p", "A", "none", 5), makes("p", "a", "v", 0), makes("p", "a", "none", -1), makes("p", "a", "none", 1001)} {
		checkCode(t, "a reason of code 2", b, e, 2)
	}
}

func TestMovingThatMeetsSeveralCodes(t *testing.T) {
	eachMet([]int{3, 6, 7, 8}, func(met map[int]bool) {
		for _, none := range []moved{{"none", "v"}, {"u", "none"}, {"none", "no"}, {"none", "u"}} {
			b := impl.StuffBook{Foes: foes("a/b"), Lots: lots("p:a q:b r:x")}
			from, to := vessel("u", 10, choose(met[6], "p:4", "p:5"), "p"), vessel("v", 10, choose(met[7], "r:6", "r:5"), choose(met[8], "q r", "r"))
			b.Vessels = []impl.StuffVessel{from, to}
			way := choose(met[3], none, moved{"u", "v"})
			checkCode(t, fmt.Sprint("moved ", met), b, moves(way.from, way.to, 5), firstOf(met))
			checkCode(t, fmt.Sprint("moved, with 2 ", met), b, moves(way.from, way.to, 0), 2)
			checkCode(t, fmt.Sprint("moved, with 2 ", met), b, moves(way.from, way.to, math.MinInt), 2)
			checkCode(t, fmt.Sprint("moved to itself ", met), b, moves(way.from, way.from, 5), 2)
			checkCode(t, fmt.Sprint("moved to itself ", met), b, moves(way.to, way.to, 7), 2)
		}
	})
}

type moved struct{ from, to string }

func TestTakingThatMeetsSeveralCodes(t *testing.T) {
	eachMet([]int{3, 4, 5, 6}, func(met map[int]bool) {
		for _, taken := range []string{"v", "o10"} {
			b := inVessels(vessel("v", 10, choose(met[6], "p:4", "p:5"), "p q"))
			for i := range impl.StuffMaxOuts - choose(met[5], 0, 1) {
				b.Outs = append(b.Outs, impl.StuffOut{Name: "o" + strconv.Itoa(10+i)})
			}
			name, from := choose(met[4], taken, "n"), choose(met[3], "none", "v")
			checkCode(t, fmt.Sprint("taken ", met), b, takes(name, from, 5), firstOf(met))
			checkCode(t, fmt.Sprint("taken, with 2 ", met), b, takes(name, from, 0), 2)
			checkCode(t, fmt.Sprint("taken, with 2 ", met), b, takes("O", from, 5), 2)
			checkCode(t, fmt.Sprint("taken, with 2 ", met), b, takes("", from, -5), 2)
		}
	})
}

// ofEachKind is events of each kind, and of none, with names of the small book and others.
func ofEachKind() []impl.StuffEvent {
	return []impl.StuffEvent{
		makes("b1", "beer", "yard", 7), makes("b1", "beer", "keg", 1), makes("b1", "lye", "yard", 7), makes("a1", "ale", "yard", 1), makes("b1", "ale", "tun", 1), makes("", "", "", 0),
		moves("keg", "yard", 7), moves("tun", "yard", 19), moves("keg", "tun", 1), moves("keg", "vat", 1), moves("keg", "vat", 2), moves("keg", "keg", 1), moves("none", "keg", 1),
		takes("b1", "keg", 7), takes("zip", "tun", 19), takes("cup", "tun", 1), takes("tun", "keg", 1), takes("b1", "vat", 1), takes("", "vat", 1),
		cleans("vat"), cleans("yard"), cleans("keg"), cleans("none"), {}, {Kind: 5}, {Kind: -1, Name: "b1", Stuff: "beer", From: "keg", To: "yard", Amount: 1},
	}
}

func TestEventsInBooksThatAreNotOk(t *testing.T) {
	for i, b := range spoiltBooks() {
		checkBook(t, "spoilt "+strconv.Itoa(i), b, false)
		for _, e := range ofEachKind() {
			checkStep(t, b, e, impl.StuffBook{}, 1)
		}
		for most := range 3 {
			if after, codes := impl.StuffPlay(b, ofEachKind()[:most]); len(codes) > 0 || !sameBook(after, impl.StuffBook{}) {
				t.Errorf("spoilt %d: StuffPlay = %+v, %v", i, after, codes)
			}
		}
	}
}
