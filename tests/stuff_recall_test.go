package tests

import (
	"maps"
	"math/rand"
	"reflect"
	"runtime"
	"slices"
	"strings"
	"sync"
	"testing"

	"loop.example/malthouse/impl"
)

func checkRecall(t *testing.T, b impl.StuffBook, lot string, want ...string) {
	t.Helper()
	if got := impl.StuffRecall(b, lot); !slices.Equal(got, want) {
		t.Errorf("StuffRecall of %.20q in %+v = %q; want %q", lot, b, got, want)
	}
}

func checkAmount(t *testing.T, b impl.StuffBook, lot string, in, out int) {
	t.Helper()
	if i, o := impl.StuffAmount(b, lot); i != in || o != out {
		t.Errorf("StuffAmount of %.20q in %+v = %d, %d; want %d, %d", lot, b, i, o, in, out)
	}
}

func checkReach(t *testing.T, b impl.StuffBook, events []impl.StuffEvent, lot string, want ...string) {
	t.Helper()
	if got := impl.StuffReach(b, events, lot); !slices.Equal(got, want) {
		t.Errorf("StuffReach of %.20q, %+v\nin %+v\n = %q; want %q", lot, events, b, got, want)
	}
}

func hasVessel(b impl.StuffBook, name string) bool {
	return slices.ContainsFunc(b.Vessels, func(v impl.StuffVessel) bool { return v.Name == name })
}

// recallByDefinition reads the chapter a second time, by what May has of each name.
func recallByDefinition(b impl.StuffBook, lot string) []string {
	if !bookByDefinition(b) {
		return nil
	}
	var vessels, outs []string
	for name, may := range countedIn(b).may {
		switch {
		case may[lot] && hasVessel(b, name):
			vessels = append(vessels, name)
		case may[lot]:
			outs = append(outs, name)
		}
	}
	slices.Sort(vessels)
	slices.Sort(outs)
	return append(vessels, outs...)
}

// amountByDefinition takes what is in vessels away from all that there is.
func amountByDefinition(b impl.StuffBook, lot string) (int, int) {
	if !bookByDefinition(b) {
		return 0, 0
	}
	in, all := 0, 0
	c := countedIn(b)
	for _, v := range b.Vessels {
		in += c.in[v.Name][lot]
	}
	for _, held := range c.in {
		all += held[lot]
	}
	return in, all - in
}

// reachByDefinition asks of each name, from the last event back, whether it is one of them.
func reachByDefinition(b impl.StuffBook, events []impl.StuffEvent, lot string) []string {
	if !bookByDefinition(b) {
		return nil
	}
	first := recallByDefinition(b, lot)
	names := map[string]bool{}
	for name := range countedIn(b).in {
		names[name] = true
	}
	var happened []impl.StuffEvent
	for _, e := range events {
		after, code := stepByDefinition(b, e)
		if code == 0 {
			happened = append(happened, e)
			names[e.Name] = true
		}
		b = after
	}
	var isOne func(name string, events int) bool
	isOne = func(name string, events int) bool {
		if events == 0 {
			return slices.Contains(first, name)
		}
		e, ahead := happened[events-1], func(name string) bool { return isOne(name, events-1) }
		switch {
		case e.Kind == 1 && e.Name == lot && e.To == name:
			return true
		case e.Kind == 2 && e.To == name && ahead(e.From):
			return true
		case e.Kind == 3 && e.Name == name && ahead(e.From):
			return true
		case e.Kind == 4 && e.To == name:
			return false
		}
		return ahead(name)
	}
	maps.DeleteFunc(names, func(name string, _ bool) bool { return !isOne(name, len(happened)) })
	return slices.Sorted(maps.Keys(names))
}

// lotsOf is all lots of a book and of events, and texts that are none.
func lotsOf(b impl.StuffBook, events ...impl.StuffEvent) []string {
	all := append(noNames(), "keg", "cup", "ale")
	for _, l := range b.Lots {
		all = append(all, l.Name)
	}
	for _, e := range events {
		all = append(all, e.Name)
	}
	slices.Sort(all)
	return slices.Compact(all)
}

func TestRecallOfLots(t *testing.T) {
	b := smallBook()
	checkRecall(t, b, "a1", "keg", "cup")
	checkRecall(t, b, "a2", "keg")
	checkRecall(t, b, "l1", "tun", "jug")
	checkRecall(t, b, "m1", "tun", "jug")
	// Of w1 nothing is left in the tun, in the vat and in the cup, but it may be there.
	checkRecall(t, b, "w1", "keg", "tun", "vat", "cup")
	b.Lots = lots("a1:ale a2:ale l1:lye m1:malt n1:malt w1:water")
	checkRecall(t, b, "n1")
	b.Outs[1] = out("jug", "", "n1")
	checkRecall(t, b, "n1", "jug")
	checkRecall(t, b, "m1", "tun")
	b.Outs[2] = out("pan", "n1:3", "n1 w1")
	checkRecall(t, b, "n1", "jug", "pan")
	checkRecall(t, b, "w1", "keg", "tun", "vat", "cup", "pan")
}

func TestRecallOfWhatIsNoLot(t *testing.T) {
	for _, b := range someOk() {
		for _, text := range append(noNames(), "none", "a1 ", "a", "keg", "cup", "ale", "A1", "\xff", strings.Repeat("a1", 100000)) {
			if !slices.ContainsFunc(b.Lots, func(l impl.StuffLot) bool { return l.Name == text }) {
				checkRecall(t, b, text)
				checkAmount(t, b, text, 0, 0)
			}
		}
	}
}

// An out that is called as one ahead of all vessels is still told behind them.
func TestRecallOfOutsBehindVessels(t *testing.T) {
	b := impl.StuffBook{
		Lots:    lots("p:x q:x"),
		Vessels: []impl.StuffVessel{vessel("c", 9, "p:1", "p"), vessel("m", 9, "", "p q"), vessel("y", 9, "", "")},
		Outs:    []impl.StuffOut{out("a", "p:1", "p q"), out("d", "", "q"), out("e", "", "p"), out("z", "", "p q")},
	}
	checkRecall(t, b, "p", "c", "m", "a", "e", "z")
	checkRecall(t, b, "q", "m", "a", "d", "z")
	// StuffReach tells the same, but all of them ascending.
	checkReach(t, b, nil, "p", "a", "c", "e", "m", "z")
	checkReach(t, b, nil, "q", "a", "d", "m", "z")
	checkReach(t, b, []impl.StuffEvent{takes("b", "c", 1), cleans("c"), takes("n", "m", 1)}, "p", "a", "b", "e", "m", "z")
}

func TestRecallOfAllThatThereIs(t *testing.T) {
	b := fullBook()
	var vessels, outs []string
	for _, v := range b.Vessels {
		vessels = append(vessels, v.Name)
	}
	for _, o := range b.Outs {
		outs = append(outs, o.Name)
	}
	for i, l := range b.Lots {
		checkRecall(t, b, l.Name, append(slices.Clone(vessels), outs...)...)
		checkReach(t, b, nil, l.Name, append(slices.Clone(outs), vessels...)...)
		each := impl.StuffMaxCap/impl.StuffMaxLots + i%2
		checkAmount(t, b, l.Name, each*impl.StuffMaxVessels, each*impl.StuffMaxOuts)
	}
	most := impl.StuffBook{Lots: lots("p:x")}
	for i := range vessels {
		most.Vessels = append(most.Vessels, vessel(vessels[i], 1000, "p:1000", "p"))
	}
	for i := range outs {
		most.Outs = append(most.Outs, out(outs[i], "p:1000", "p"))
	}
	checkAmount(t, most, "p", 8000, 12000)
}

// All choices of two vessels and two outs that may hold a lot, with and without any of it there.
func TestRecallByWhatMayHold(t *testing.T) {
	for bits := range 1 << 8 {
		may := func(at int) string { return choose(bits>>at&1 == 1, "n p q", "n q") }
		in := func(at int) string { return choose(bits>>at&1 == 1 && bits>>(4+at)&1 == 1, "n:1 p:3 q:1", "n:1 q:1") }
		b := impl.StuffBook{Lots: lots("n:x p:x q:x"), Vessels: []impl.StuffVessel{vessel("v", 9, in(0), may(0)), vessel("w", 9, in(1), may(1))}, Outs: []impl.StuffOut{out("o", in(2), may(2)), out("x", in(3), may(3))}}
		var want []string
		want = append(want, pick([]string{"v", "w", "o", "x"}, bits&15)...)
		checkRecall(t, b, "p", want...)
		there := pick([]int{0, 1, 2, 3}, bits&15&(bits>>4))
		inVessels := len(slices.DeleteFunc(slices.Clone(there), func(at int) bool { return at > 1 }))
		checkAmount(t, b, "p", 3*inVessels, 3*(len(there)-inVessels))
		checkAmount(t, b, "q", 2, 2)
		checkRecall(t, b, "n", "v", "w", "o", "x")
		slices.Sort(want)
		checkReach(t, b, nil, "p", want...)
	}
}

func TestAmountsOfLots(t *testing.T) {
	b := smallBook()
	checkAmount(t, b, "a1", 10, 1)
	checkAmount(t, b, "a2", 5, 0)
	checkAmount(t, b, "l1", 0, 600)
	checkAmount(t, b, "m1", 19, 400)
	checkAmount(t, b, "w1", 15, 0)
	b.Vessels[3], b.Outs[2] = vessel("yard", 1000, "m1:981 w1:2", "m1 w1"), out("pan", "m1:1000", "m1")
	checkAmount(t, b, "m1", 1000, 1400)
	checkAmount(t, b, "w1", 17, 0)
	b.Vessels[1], b.Vessels[3] = vessel("tun", 20, "", "m1"), vessel("yard", 1000, "", "m1")
	checkAmount(t, b, "m1", 0, 1400)
}

func TestRecallOfSomeBooks(t *testing.T) {
	for _, b := range append(slices.Collect(maps.Values(someOk())), spoiltBooks()...) {
		for _, lot := range lotsOf(b) {
			checkRecall(t, b, lot, recallByDefinition(b, lot)...)
			in, out := amountByDefinition(b, lot)
			checkAmount(t, b, lot, in, out)
		}
	}
}

func TestRecallOfBooksThatAreNotOk(t *testing.T) {
	for _, b := range spoiltBooks() {
		for _, lot := range lotsOf(b, ofEachKind()...) {
			checkRecall(t, b, lot)
			checkAmount(t, b, lot, 0, 0)
			checkReach(t, b, nil, lot)
			checkReach(t, b, ofEachKind(), lot)
			checkReach(t, b, []impl.StuffEvent{makes(lot, "x", "yard", 1)}, lot)
			checkReach(t, b, []impl.StuffEvent{cleans("vat"), takes("zip", "keg", 1)}, lot)
		}
	}
}

func TestRecallOfBooksOfWhichOneThingIsChanged(t *testing.T) {
	from := impl.StuffBook{Foes: foes("a/b"), Lots: lots("p:a q:b r:x"), Vessels: []impl.StuffVessel{vessel("v", 9, "p:4 r:3", "p r"), vessel("w", 5, "", "q")}, Outs: []impl.StuffOut{out("o", "q:5", "q")}}
	row := []impl.StuffEvent{takes("n", "v", 3), makes("s", "b", "w", 1), moves("v", "w", 1), takes("m", "w", 1), cleans("w"), moves("v", "w", 1), takes("w", "v", 1)}
	eachChanged(from, namesOfBook(from), func(b impl.StuffBook) {
		for _, lot := range []string{"p", "q", "r", "s", "none", ""} {
			checkRecall(t, b, lot, recallByDefinition(b, lot)...)
			in, out := amountByDefinition(b, lot)
			checkAmount(t, b, lot, in, out)
			checkReach(t, b, row, lot, reachByDefinition(b, row, lot)...)
		}
	})
}

func TestReachOfNoEvents(t *testing.T) {
	for _, b := range append(slices.Collect(maps.Values(someOk())), spoiltBooks()...) {
		for _, lot := range lotsOf(b) {
			want := recallByDefinition(b, lot)
			slices.Sort(want)
			checkReach(t, b, nil, lot, want...)
			checkReach(t, b, []impl.StuffEvent{}, lot, want...)
		}
	}
}

// threeVessels has lot p in u and may have it in an out, and lot q in v.
func threeVessels() impl.StuffBook {
	return impl.StuffBook{
		Foes:    foes("a/b"),
		Lots:    lots("p:x q:x"),
		Vessels: []impl.StuffVessel{vessel("u", 20, "p:9", "p"), vessel("v", 20, "q:9", "q"), vessel("w", 20, "", "")},
		Outs:    []impl.StuffOut{out("k", "q:1", "p q")},
	}
}

func TestReachOfEachKind(t *testing.T) {
	b := threeVessels()
	for _, c := range []struct {
		e    impl.StuffEvent
		p, q string
		n    string
	}{
		{makes("n", "x", "w", 1), "k u", "k v", "w"},
		{makes("n", "x", "u", 1), "k u", "k v", "u"},
		{moves("u", "v", 1), "k u v", "k v", ""},
		{moves("u", "v", 9), "k u v", "k v", ""},
		{moves("u", "w", 1), "k u w", "k v", ""},
		{moves("v", "u", 1), "k u", "k u v", ""},
		{moves("v", "w", 9), "k u", "k v w", ""},
		{takes("o", "u", 1), "k o u", "k v", ""},
		{takes("o", "v", 1), "k u", "k o v", ""},
		{takes("a", "u", 9), "a k u", "k v", ""},
		{takes("x", "u", 1), "k u x", "k v", ""},
		{takes("n", "u", 1), "k n u", "k v", ""},
		{cleans("w"), "k u", "k v", ""},
	} {
		row := []impl.StuffEvent{c.e}
		checkReach(t, b, row, "p", strings.Fields(c.p)...)
		checkReach(t, b, row, "q", strings.Fields(c.q)...)
		checkReach(t, b, row, "n", strings.Fields(c.n)...)
		checkReach(t, b, row, "none")
	}
	b.Vessels[0].Parts = nil
	checkReach(t, b, []impl.StuffEvent{cleans("u")}, "p", "k")
	checkReach(t, b, []impl.StuffEvent{cleans("u")}, "q", "k", "v")
}

func TestReachFromOneToTheNextAndBack(t *testing.T) {
	b := threeVessels()
	row := []impl.StuffEvent{moves("u", "v", 9), moves("v", "w", 6), moves("w", "u", 1)}
	for cut, want := range []string{"k u", "k u v", "k u v w", "k u v w"} {
		checkReach(t, b, row[:cut], "p", strings.Fields(want)...)
	}
	for cut, want := range []string{"k v", "k v", "k v w", "k u v w"} {
		checkReach(t, b, row[:cut], "q", strings.Fields(want)...)
	}
	// In another order it comes less far: v gives on what it has only when it has it.
	checkReach(t, b, []impl.StuffEvent{moves("v", "w", 6), moves("u", "v", 9)}, "p", "k", "u", "v")
	checkReach(t, b, []impl.StuffEvent{moves("v", "w", 6), moves("u", "v", 9)}, "q", "k", "v", "w")
	// It is back where it was, which was cleaned meanwhile.
	there := []impl.StuffEvent{moves("u", "w", 9), cleans("u"), moves("w", "u", 9), cleans("w")}
	for cut, want := range []string{"k u", "k u w", "k w", "k u w", "k u"} {
		checkReach(t, b, there[:cut], "p", strings.Fields(want)...)
	}
}

func TestReachOfWhatIsTakenOut(t *testing.T) {
	b := threeVessels()
	row := []impl.StuffEvent{takes("o", "v", 1), moves("u", "v", 1), takes("n", "v", 1), takes("m", "u", 8), cleans("u"), moves("v", "u", 1), takes("l", "w", 1), takes("j", "u", 1)}
	checkReach(t, b, row, "p", "j", "k", "m", "n", "u", "v")
	checkReach(t, b, row, "q", "j", "k", "n", "o", "u", "v")
	// An out stays, whatever becomes of where it was taken from.
	checkReach(t, b, []impl.StuffEvent{takes("o", "u", 9), cleans("u"), makes("n", "x", "u", 1), takes("i", "u", 1)}, "p", "k", "o")
	checkReach(t, b, []impl.StuffEvent{takes("o", "u", 9), cleans("u"), makes("n", "x", "u", 1), takes("i", "u", 1)}, "n", "i", "u")
	// It may be called as the lot is.
	checkReach(t, b, []impl.StuffEvent{takes("p", "v", 1)}, "p", "k", "u")
	checkReach(t, b, []impl.StuffEvent{takes("p", "u", 1)}, "p", "k", "p", "u")
	checkReach(t, b, []impl.StuffEvent{takes("p", "v", 1)}, "q", "k", "p", "v")
}

func TestReachOfWhatIsCleanedAndFilledAgain(t *testing.T) {
	b := threeVessels()
	row := []impl.StuffEvent{moves("u", "v", 9), cleans("u"), makes("n", "x", "u", 2), moves("v", "u", 1), takes("o", "u", 3), cleans("u"), makes("m", "b", "u", 1), cleans("w")}
	for cut, want := range []string{"k u", "k u v", "k v", "k v", "k u v", "k o u v", "k o v", "k o v", "k o v"} {
		checkReach(t, b, row[:cut], "p", strings.Fields(want)...)
	}
	for cut, want := range []string{"", "", "", "u", "u", "o u", "o", "o", "o"} {
		checkReach(t, b, row[:cut], "n", strings.Fields(want)...)
	}
	for cut, want := range []string{"", "", "", "", "", "", "", "u", "u"} {
		checkReach(t, b, row[:cut], "m", strings.Fields(want)...)
	}
}

// refusedOnes is a book, and events that have a code in it, by that code; if they had none, most of them would tell something.
func refusedOnes() (impl.StuffBook, map[int][]impl.StuffEvent) {
	b := threeVessels()
	b.Foes = foes("a/b", "b/x")
	b.Lots = lots("p:x q:x s:a z:b")
	b.Vessels = append([]impl.StuffVessel{vessel("bad", 9, "z:1", "z"), vessel("full", 20, "s:15", "s")}, b.Vessels...)
	return b, map[int][]impl.StuffEvent{
		2: {makes("n", "", "w", 1), makes("n", "x", "w", 0), makes("N", "x", "w", 1), moves("u", "w", 0), moves("u", "u", 1), takes("", "u", 1), takes("O", "u", 1), takes("o", "u", 0), {}, {Kind: 5, From: "u", To: "w", Name: "o", Amount: 1}, {Kind: -2, From: "u", To: "w", Amount: 1}},
		3: {makes("n", "x", "k", 1), makes("n", "x", "none", 1), moves("u", "k", 1), moves("k", "w", 1), moves("u", "none", 1), takes("o", "k", 1), takes("o", "none", 1), cleans("k"), cleans("none")},
		4: {makes("p", "x", "w", 1), makes("q", "x", "u", 1), takes("w", "u", 1), takes("k", "v", 1), takes("u", "v", 1)},
		6: {moves("u", "w", 10), moves("w", "v", 1), takes("o", "u", 10), takes("o", "w", 1)},
		7: {makes("n", "x", "v", 12), makes("n", "x", "w", 21), moves("u", "full", 9)},
		8: {makes("n", "b", "full", 1), makes("n", "a", "bad", 1), moves("u", "bad", 1), moves("bad", "u", 1)},
		9: {cleans("u"), cleans("v")},
	}
}

func TestReachOfEventsWithACode(t *testing.T) {
	b, all := refusedOnes()
	row := []impl.StuffEvent{moves("u", "w", 2), takes("o", "w", 1), moves("v", "u", 1)}
	for code, refused := range all {
		for _, e := range refused {
			checkStays(t, b, e, code)
			for _, lot := range []string{"n", "p", "q", "s", "z", "N", "none", ""} {
				want := recallByDefinition(b, lot)
				slices.Sort(want)
				checkReach(t, b, []impl.StuffEvent{e}, lot, want...)
				checkReach(t, b, []impl.StuffEvent{e, e}, lot, want...)
				checkReach(t, b, append([]impl.StuffEvent{e}, row...), lot, reachByDefinition(b, row, lot)...)
			}
		}
	}
	// In a row of others they tell nothing, at whatever place they stand.
	checkReach(t, b, row, "p", "k", "o", "u", "w")
	checkReach(t, b, row, "q", "k", "u", "v")
	between := []impl.StuffEvent{cleans("u"), row[0], moves("u", "bad", 1), cleans("w"), row[1], takes("o", "v", 1), takes("w", "v", 1), row[2], moves("w", "full", 6), {}}
	checkReach(t, b, between, "p", "k", "o", "u", "w")
	checkReach(t, b, between, "q", "k", "u", "v")
	// Where there is no place for one more, none is told.
	full := fullBook()
	names := slices.Sorted(slices.Values(impl.StuffRecall(full, "lot-10")))
	checkReach(t, full, []impl.StuffEvent{takes("one-more", "vessel-a", 1)}, "lot-10", names...)
	checkReach(t, full, []impl.StuffEvent{takes("first", "vessel-a", 1000), cleans("vessel-a"), makes("one-more", "a", "vessel-a", 1)}, "one-more")
}

// Whether an event has a code is told by what happened ahead of it, and not by the book alone.
func TestReachOfCodesThatOthersLeadTo(t *testing.T) {
	b := threeVessels()
	// Cleaned when it is empty, and not ahead of that.
	checkReach(t, b, []impl.StuffEvent{cleans("u"), moves("u", "w", 9)}, "p", "k", "u", "w")
	checkReach(t, b, []impl.StuffEvent{moves("u", "w", 9), cleans("u")}, "p", "k", "w")
	checkReach(t, b, []impl.StuffEvent{moves("u", "w", 8), cleans("u")}, "p", "k", "u", "w")
	// There is something in w only behind the first move.
	checkReach(t, b, []impl.StuffEvent{moves("w", "v", 1), moves("u", "w", 1)}, "p", "k", "u", "w")
	checkReach(t, b, []impl.StuffEvent{moves("u", "w", 1), moves("w", "v", 1)}, "p", "k", "u", "v", "w")
	checkReach(t, b, []impl.StuffEvent{moves("u", "w", 1), takes("o", "w", 1), takes("m", "w", 1), moves("w", "v", 1)}, "p", "k", "o", "u", "w")
	// The second one of a name is none.
	checkReach(t, b, []impl.StuffEvent{makes("n", "x", "w", 1), makes("n", "x", "v", 1)}, "n", "w")
	checkReach(t, b, []impl.StuffEvent{makes("n", "x", "w", 21), makes("n", "x", "v", 1)}, "n", "v")
	checkReach(t, b, []impl.StuffEvent{takes("o", "v", 1), takes("o", "u", 1)}, "p", "k", "u")
	checkReach(t, b, []impl.StuffEvent{takes("o", "v", 10), takes("o", "u", 1)}, "p", "k", "o", "u")
	// Foes that were cleaned away are none any more.
	b.Foes = foes("b/x")
	checkReach(t, b, []impl.StuffEvent{makes("n", "b", "w", 1), moves("u", "w", 1), takes("o", "w", 1)}, "p", "k", "u")
	checkReach(t, b, []impl.StuffEvent{makes("n", "b", "w", 1), takes("o", "w", 1), moves("u", "w", 1), cleans("w"), moves("u", "w", 1)}, "p", "k", "u", "w")
	// A lot of which nothing came along is told with the others.
	b = inVessels(vessel("u", 9, "", ""), vessel("v", 99, "p:1 q:50", "p q r"))
	for _, lot := range []string{"p", "q", "r"} {
		checkReach(t, b, []impl.StuffEvent{moves("v", "u", 2), takes("o", "u", 1)}, lot, "o", "u", "v")
	}
}

func TestReachOfSomeBooks(t *testing.T) {
	for _, b := range append(slices.Collect(maps.Values(someOk())), spoiltBooks()...) {
		row := ofEachKind()
		for _, v := range b.Vessels[:min(len(b.Vessels), 2)] {
			row = append(row, makes("n", "x", v.Name, 1), moves(v.Name, "yard", 1), takes("o-"+v.Name[:1], v.Name, 1), cleans(v.Name))
		}
		for _, lot := range lotsOf(b, row...) {
			checkReach(t, b, row, lot, reachByDefinition(b, row, lot)...)
		}
	}
}

// checkRecalled is promise 11 of one row of events in one book, and gives what is told of the lot.
func checkRecalled(t *testing.T, b impl.StuffBook, row []impl.StuffEvent, lot string) []string {
	t.Helper()
	after, _ := impl.StuffPlay(b, row)
	recalled := impl.StuffRecall(after, lot)
	checkRecall(t, after, lot, recallByDefinition(after, lot)...)
	want := slices.Sorted(slices.Values(recalled))
	checkReach(t, b, row, lot, want...)
	in, out := 0, 0
	for name, held := range countedIn(after).in {
		if held[lot] > 0 && !slices.Contains(recalled, name) {
			t.Errorf("%s holds %s, and StuffRecall tells %q: %+v", name, lot, recalled, after)
		}
		if hasVessel(after, name) {
			in += held[lot]
		} else {
			out += held[lot]
		}
	}
	checkAmount(t, after, lot, in, out)
	return want
}

// Promise 11, over all short rows of some events.
func TestRecallBehindAllShortRows(t *testing.T) {
	events := []impl.StuffEvent{
		makes("p", "a", "u", 1), makes("q", "b", "v", 4), makes("r", "x", "u", 1), makes("p", "x", "v", 2),
		moves("u", "v", 1), moves("v", "u", 2), moves("u", "v", 3), takes("o", "u", 1), takes("n", "v", 2), cleans("u"), cleans("v"),
	}
	told := map[string]int{}
	eachOf(events, 4, func(row []impl.StuffEvent) {
		for _, lot := range []string{"p", "q"} {
			told[strings.Join(checkRecalled(t, beginning(), row, lot), " ")]++
		}
	})
	for _, names := range []string{"", "u", "v", "o", "n", "u v", "o u", "n v", "n u", "n u v"} {
		if told[names] == 0 {
			t.Errorf("nothing led to %q", names)
		}
	}
}

// Promise 11, over long rows of events.
func TestRecallBehindLongRows(t *testing.T) {
	dice := rand.New(rand.NewSource(41))
	for range 60 {
		row := someEvents(dice, 120)
		for _, cut := range []int{20, 60, 120} {
			for _, lot := range lotsOf(impl.StuffBook{}, row[:cut]...) {
				want := checkRecalled(t, someVessels(), row[:cut], lot)
				if cut == 20 {
					checkReach(t, someVessels(), row[:cut], lot, reachByDefinition(someVessels(), row[:cut], lot)...)
				}
				if !slices.IsSorted(want) || len(slices.Compact(slices.Clone(want))) != len(want) {
					t.Errorf("%q is told", want)
				}
			}
		}
	}
}

// Promise 11, from books in which something happened already.
func TestRecallBehindRowsInSomeBooks(t *testing.T) {
	for _, b := range someOk() {
		for cut := range len(ofEachKind()) + 1 {
			for _, lot := range lotsOf(b, ofEachKind()[:cut]...) {
				checkRecalled(t, b, ofEachKind()[:cut], lot)
			}
		}
	}
	dice := rand.New(rand.NewSource(43))
	for range 30 {
		row := someEvents(dice, 80)
		b, _ := impl.StuffPlay(someVessels(), row[:40])
		for _, lot := range lotsOf(b, row[40:]...) {
			checkRecalled(t, b, row[40:], lot)
		}
	}
}

func TestReachOfVeryManyEvents(t *testing.T) {
	there := []impl.StuffEvent{moves("u", "w", 9), cleans("u"), moves("w", "u", 9), {}, cleans("w"), cleans("u")}
	row := slices.Repeat(there, 20000)
	checkReach(t, threeVessels(), row, "p", "k", "u")
	checkReach(t, threeVessels(), row[:len(row)-5], "p", "k", "u", "w")
	checkReach(t, threeVessels(), row[:len(row)-4], "p", "k", "w")
	checkReach(t, threeVessels(), row, strings.Repeat("p", 1<<20))
	long := []impl.StuffEvent{makes(strings.Repeat("n", 1<<20), "x", "w", 1), takes(strings.Repeat("o", 1<<20), "u", 1), moves("u", strings.Repeat("w", 1<<20), 1)}
	checkReach(t, threeVessels(), long, "p", "k", "u")
	checkReach(t, threeVessels(), long, long[0].Name)
	wrong := impl.StuffBook{Lots: slices.Repeat(lots("p:x"), 100000), Vessels: slices.Repeat([]impl.StuffVessel{vessel("v", 9, "p:1", "p")}, 100000)}
	checkRecall(t, wrong, "p")
	checkAmount(t, wrong, "p", 0, 0)
	checkReach(t, wrong, row, "p")
}

func TestRecallIsNewMemory(t *testing.T) {
	for _, from := range []impl.StuffBook{smallBook(), fullBook(), threeVessels(), {}} {
		b, row := roomyBook(from), roomy(append(ofEachKind(), takes("o", "u", 1), moves("u", "w", 1), cleans("w")), cleans("behind"))
		for i := range row {
			row[i].Name, row[i].To = strings.Clone(row[i].Name), strings.Clone(row[i].To)
		}
		for _, lot := range lotsOf(b, row...) {
			for what, answer := range map[string][]string{"StuffRecall": impl.StuffRecall(b, lot), "StuffReach": impl.StuffReach(b, row, lot), "StuffReach of nothing": impl.StuffReach(b, nil, lot)} {
				checkOwnMemory(t, what, answer, b, row, lot)
				checkOwnLists(t, what, answer, b, row)
				spoilTexts(answer)
			}
		}
		if !sameBook(b, from) {
			t.Errorf("the book became %+v", b)
		}
	}
}

func TestRecallLeavesItsArguments(t *testing.T) {
	for _, from := range append(spoiltBooks(), smallBook(), fullBook(), impl.StuffBook{}, threeVessels()) {
		b, row := roomyBook(from), roomy(append(ofEachKind(), takes("o", "u", 1), moves("u", "w", 1)), cleans("behind"))
		want, wanted := bookToTheEnd(b), slices.Clone(row[:cap(row)])
		for _, lot := range lotsOf(b, row...) {
			in, out := impl.StuffAmount(b, lot)
			recalled, reached := impl.StuffRecall(b, lot), impl.StuffReach(b, row, lot)
			checkAmount(t, b, lot, in, out)
			checkRecall(t, b, lot, recalled...)
			checkReach(t, b, row, lot, reached...)
		}
		if !reflect.DeepEqual(bookToTheEnd(b), want) {
			t.Errorf("the book became %+v", bookToTheEnd(b))
		}
		if !slices.Equal(row[:cap(row)], wanted) {
			t.Errorf("the events became %+v", row[:cap(row)])
		}
	}
}

// checkSomeRecalls is some calls whose answers are known, one behind the other.
func checkSomeRecalls(t *testing.T) {
	t.Helper()
	small, wrong, row := smallBook(), spoiltBooks()[0], []impl.StuffEvent{moves("keg", "yard", 30), cleans("keg"), takes("zip", "yard", 1)}
	checkReach(t, small, row, "a1", "cup", "yard", "zip")
	checkRecall(t, small, "a1", "keg", "cup")
	checkReach(t, wrong, row, "a1")
	checkAmount(t, small, "m1", 19, 400)
	checkAmount(t, wrong, "m1", 0, 0)
	checkRecall(t, wrong, "a1")
	checkReach(t, small, nil, "m1", "jug", "tun")
	checkAmount(t, fullBook(), "lot-10", 62*8, 62*12)
	checkAmount(t, small, "none", 0, 0)
}

// What one call was given must not be seen in the next one, nor in one beside it.
func TestRecallKeepsNothing(t *testing.T) {
	var callers sync.WaitGroup
	for range 8 {
		callers.Go(func() {
			for range 30 {
				checkSomeRecalls(t)
			}
		})
	}
	callers.Wait()
}

func TestGoroutinesOfRecallHaveEnded(t *testing.T) {
	before := runtime.NumGoroutine()
	for range 300 {
		checkSomeRecalls(t)
	}
	checkNoMoreGoroutines(t, before)
}

func TestRecallHoweverGoroutinesRun(t *testing.T) {
	howeverGoroutinesRun(func() { checkSomeRecalls(t) })
}
