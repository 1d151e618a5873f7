package tests

import (
	"fmt"
	"maps"
	"math"
	"math/rand"
	"reflect"
	"slices"
	"strconv"
	"strings"
	"sync"
	"testing"

	"loop.example/malthouse/impl"
)

// counted is a book by names: what is in what, and of what something may be left there.
type counted struct {
	in  map[string]map[string]int
	may map[string]map[string]bool
}

func countedIn(b impl.StuffBook) counted {
	c := counted{in: map[string]map[string]int{}, may: map[string]map[string]bool{}}
	add := func(name string, in []impl.StuffPart, may []string) {
		c.in[name], c.may[name] = map[string]int{}, map[string]bool{}
		for _, p := range in {
			c.in[name][p.Lot] = p.Amount
		}
		for _, lot := range may {
			c.may[name][lot] = true
		}
	}
	for _, v := range b.Vessels {
		add(v.Name, v.Parts, v.May)
	}
	for _, o := range b.Outs {
		add(o.Name, o.Parts, o.May)
	}
	return c
}

// listed is what is in a vessel, or an out, as lists again.
func (c counted) listed(name string) ([]impl.StuffPart, []string) {
	var in []impl.StuffPart
	for _, lot := range slices.Sorted(maps.Keys(c.in[name])) {
		if c.in[name][lot] > 0 {
			in = append(in, impl.StuffPart{Lot: lot, Amount: c.in[name][lot]})
		}
	}
	return in, slices.Sorted(maps.Keys(c.may[name]))
}

func (c counted) held(name string) int {
	return sumOf(slices.Collect(maps.Values(c.in[name])))
}

// flow is so much of one that goes to another, by the chapter's words "is taken" and "is put".
func (c counted) flow(from, to string, amount int) {
	in, may := c.listed(from)
	var amounts []int
	for _, p := range in {
		amounts = append(amounts, p.Amount)
	}
	for i, share := range splitByDefinition(amounts, amount) {
		c.in[from][in[i].Lot] -= share
		c.in[to][in[i].Lot] += share
	}
	for _, lot := range may {
		c.may[to][lot] = true
	}
}

// foesByDefinition says whether two stuffs of two lists are foes.
func foesByDefinition(b impl.StuffBook, these, those []string) bool {
	for _, f := range b.Foes {
		if slices.Contains(these, f.A) && slices.Contains(those, f.B) || slices.Contains(these, f.B) && slices.Contains(those, f.A) {
			return true
		}
	}
	return false
}

// codeByDefinition reads the table a second time: each code with what is asked for it, in the order of its line.
func codeByDefinition(b impl.StuffBook, e impl.StuffEvent) int {
	c, most, stuffs := countedIn(b), map[string]int{}, map[string][]string{}
	lot := map[string]string{}
	for _, l := range b.Lots {
		lot[l.Name] = l.Stuff
	}
	for _, v := range b.Vessels {
		most[v.Name] = v.Cap
		for _, name := range v.May {
			stuffs[v.Name] = append(stuffs[v.Name], lot[name])
		}
	}
	type row struct {
		code int
		met  bool
	}
	noVessel := func(name string) bool { return most[name] == 0 }
	tooMuch := e.Amount > most[e.To]-c.held(e.To)
	tooLittle := c.held(e.From) < e.Amount
	var rows []row
	switch e.Kind {
	case 1:
		rows = []row{
			{2, !nameByDefinition(e.Name) || !nameByDefinition(e.Stuff) || e.Amount < 1 || e.Amount > 1000},
			{3, noVessel(e.To)}, {4, lot[e.Name] != ""}, {5, len(b.Lots) == 16}, {7, tooMuch}, {8, foesByDefinition(b, []string{e.Stuff}, stuffs[e.To])},
		}
	case 2:
		rows = []row{{2, e.Amount < 1 || e.From == e.To}, {3, noVessel(e.From) || noVessel(e.To)}, {6, tooLittle}, {7, tooMuch}, {8, foesByDefinition(b, stuffs[e.From], stuffs[e.To])}}
	case 3:
		_, taken := c.in[e.Name]
		rows = []row{{2, !nameByDefinition(e.Name) || e.Amount < 1}, {3, noVessel(e.From)}, {4, taken}, {5, len(b.Outs) == 12}, {6, tooLittle}}
	case 4:
		rows = []row{{3, noVessel(e.To)}, {9, c.held(e.To) > 0}}
	default:
		rows = []row{{2, true}}
	}
	for _, r := range rows {
		if r.met {
			return r.code
		}
	}
	return 0
}

// stepByDefinition reads the chapter a second time: what is in what is counted by names, and listed anew.
func stepByDefinition(b impl.StuffBook, e impl.StuffEvent) (impl.StuffBook, int) {
	if !bookByDefinition(b) {
		return impl.StuffBook{}, 1
	}
	if code := codeByDefinition(b, e); code > 0 {
		return b, code
	}
	after, c := clonedBook(b), countedIn(b)
	switch e.Kind {
	case 1:
		after.Lots = append(after.Lots, impl.StuffLot{Name: e.Name, Stuff: e.Stuff})
		slices.SortFunc(after.Lots, func(a, b impl.StuffLot) int { return strings.Compare(a.Name, b.Name) })
		c.in[e.To][e.Name], c.may[e.To][e.Name] = e.Amount, true
	case 2:
		c.flow(e.From, e.To, e.Amount)
	case 3:
		after.Outs = append(after.Outs, impl.StuffOut{Name: e.Name})
		slices.SortFunc(after.Outs, func(a, b impl.StuffOut) int { return strings.Compare(a.Name, b.Name) })
		c.in[e.Name], c.may[e.Name] = map[string]int{}, map[string]bool{}
		c.flow(e.From, e.Name, e.Amount)
	case 4:
		c.may[e.To] = nil
	}
	for i, v := range after.Vessels {
		after.Vessels[i].Parts, after.Vessels[i].May = c.listed(v.Name)
	}
	for i, o := range after.Outs {
		after.Outs[i].Parts, after.Outs[i].May = c.listed(o.Name)
	}
	return after, 0
}

// eachEvent tells events of each kind, with some names and amounts at each of their places.
func eachEvent(names, vessels, stuffs []string, amounts []int, tell func(e impl.StuffEvent)) {
	for _, amount := range amounts {
		for _, name := range names {
			for _, at := range vessels {
				for _, stuff := range stuffs {
					tell(makes(name, stuff, at, amount))
				}
				tell(takes(name, at, amount))
			}
		}
		for _, from := range vessels {
			for _, to := range vessels {
				tell(moves(from, to, amount))
			}
		}
	}
	for _, to := range vessels {
		tell(cleans(to))
	}
}

func TestAllEventsInSomeBooks(t *testing.T) {
	amounts := []int{math.MinInt, -1, 0, 1, 2, 3, 5, 11, 15, 19, 20, 30, 31, 999, 1000, 1001, math.MaxInt}
	for what, b := range someOk() {
		var names, at []string
		for _, v := range b.Vessels {
			at = append(at, v.Name)
		}
		at = append(at[:min(len(at), 4)], "", "none")
		names = append(names, at...)
		for _, l := range b.Lots {
			names = append(names, l.Name)
		}
		names = append(names[:min(len(names), 7)], "cup", "zip", "A")
		some := amounts
		if what != "small" {
			some = []int{0, 1, 3, 10, 1000}
		}
		seen := map[int]int{}
		eachEvent(names, at, []string{"ale", "lye", "a", "x", ""}, some, func(e impl.StuffEvent) {
			want, code := stepByDefinition(b, e)
			checkStep(t, b, e, want, code)
			seen[code]++
		})
		if what == "small" && len(seen) != 8 {
			t.Errorf("small: codes %v", seen)
		}
	}
}

func TestEventsInBooksOfWhichOneThingIsChanged(t *testing.T) {
	from := impl.StuffBook{Foes: foes("a/b"), Lots: lots("p:a q:b r:x"), Vessels: []impl.StuffVessel{vessel("v", 9, "p:4 r:3", "p r"), vessel("w", 5, "", "q")}, Outs: []impl.StuffOut{out("o", "q:5", "q")}}
	events := []impl.StuffEvent{makes("n", "b", "v", 1), makes("n", "x", "w", 5), moves("v", "w", 3), moves("v", "w", 5), takes("n", "v", 3), takes("w", "v", 7), cleans("w"), cleans("v"), {}}
	eachChanged(from, namesOfBook(from), func(b impl.StuffBook) {
		for _, e := range events {
			want, code := stepByDefinition(b, e)
			checkStep(t, b, e, want, code)
		}
	})
}

// beginning is a book in which nothing has happened.
func beginning() impl.StuffBook {
	return impl.StuffBook{Foes: foes("a/b"), Vessels: []impl.StuffVessel{vessel("u", 3, "", ""), vessel("v", 5, "", "")}}
}

// checkPromises is promises 8, 9 and 10 of a book, with what was made of each lot.
func checkPromises(t *testing.T, b impl.StuffBook, made map[string]int) {
	t.Helper()
	stuff, there := map[string]string{}, map[string]int{}
	for _, l := range b.Lots {
		stuff[l.Name] = l.Stuff
	}
	for _, v := range b.Vessels {
		var may []string
		for _, lot := range v.May {
			may = append(may, stuff[lot])
		}
		if foesByDefinition(b, may, may) {
			t.Errorf("foes may be in %s: %+v", v.Name, b)
		}
		sum := 0
		for _, p := range v.Parts {
			sum, there[p.Lot] = sum+p.Amount, there[p.Lot]+p.Amount
			if !slices.Contains(v.May, p.Lot) {
				t.Errorf("%s holds %s, which it may not: %+v", v.Name, p.Lot, b)
			}
		}
		if sum > v.Cap {
			t.Errorf("%s holds %d: %+v", v.Name, sum, b)
		}
	}
	for _, o := range b.Outs {
		for _, p := range o.Parts {
			there[p.Lot] += p.Amount
		}
	}
	if !maps.Equal(there, made) {
		t.Errorf("made was %v, and there is %v: %+v", made, there, b)
	}
	if !impl.StuffBookOk(b) {
		t.Errorf("not ok: %+v", b)
	}
}

// checkOnlyNamed is promise 13 of one event without a code: all that it does not name is as it was.
func checkOnlyNamed(t *testing.T, b, after impl.StuffBook, e impl.StuffEvent) {
	t.Helper()
	lots, outs := slices.Clone(after.Lots), slices.Clone(after.Outs)
	named := map[string]bool{e.From: true, e.To: true}
	switch e.Kind {
	case impl.StuffMakes:
		lots = slices.DeleteFunc(lots, func(l impl.StuffLot) bool { return l == impl.StuffLot{Name: e.Name, Stuff: e.Stuff} })
		delete(named, e.From)
	case impl.StuffTakes:
		outs = slices.DeleteFunc(outs, func(o impl.StuffOut) bool { return o.Name == e.Name })
		delete(named, e.To)
	case impl.StuffCleans:
		delete(named, e.From)
	}
	others := func(b impl.StuffBook) []impl.StuffVessel {
		return slices.DeleteFunc(slices.Clone(b.Vessels), func(v impl.StuffVessel) bool { return named[v.Name] })
	}
	is := impl.StuffBook{Foes: after.Foes, Lots: lots, Vessels: others(after), Outs: outs}
	was := impl.StuffBook{Foes: b.Foes, Lots: b.Lots, Vessels: others(b), Outs: b.Outs}
	if !sameBook(is, was) {
		t.Errorf("%+v changed what it does not name: %+v became %+v", e, b, after)
	}
	for i, v := range b.Vessels {
		if after.Vessels[i].Name != v.Name || after.Vessels[i].Cap != v.Cap {
			t.Errorf("%+v changed a vessel: %+v became %+v", e, v, after.Vessels[i])
		}
	}
}

// checkFlow is the rest of promise 13: just what is gone where it was is there where it is, and it is Amount.
func checkFlow(t *testing.T, b, after impl.StuffBook, e impl.StuffEvent) {
	t.Helper()
	was, is := countedIn(b), countedIn(after)
	to := e.To
	switch e.Kind {
	case impl.StuffTakes:
		to = e.Name
	case impl.StuffMakes:
		if is.held(to) != was.held(to)+e.Amount || is.in[to][e.Name] != e.Amount {
			t.Errorf("%+v: %v became %v", e, was.in[to], is.in[to])
		}
		return
	case impl.StuffCleans:
		return
	}
	gone := 0
	for lot := range was.in[e.From] {
		left := was.in[e.From][lot] - is.in[e.From][lot]
		gone += left
		if left < 0 || is.in[to][lot]-was.in[to][lot] != left {
			t.Errorf("%+v: of %s %d is gone; %v became %v", e, lot, left, was.in, is.in)
		}
	}
	if gone != e.Amount || is.held(to)-was.held(to) != gone || !maps.Equal(is.may[e.From], was.may[e.From]) {
		t.Errorf("%+v: %d is gone; %v became %v", e, gone, was.in, is.in)
	}
}

// checkNext looks at one event in one book by all that the chapter and its promises say, and gives the book behind it.
func checkNext(t *testing.T, b impl.StuffBook, e impl.StuffEvent, made map[string]int) (impl.StuffBook, map[string]int, int) {
	t.Helper()
	want, wanted := stepByDefinition(b, e)
	after, code := impl.StuffStep(b, e)
	if code != wanted || !sameBook(after, want) {
		t.Errorf("StuffStep of %+v\nin %+v\n = %+v, %d\nwant %+v, %d", e, b, after, code, want, wanted)
	}
	if code == 0 {
		if e.Kind == impl.StuffMakes {
			made = maps.Clone(made)
			made[e.Name] = e.Amount
		}
		checkOnlyNamed(t, b, after, e)
		checkFlow(t, b, after, e)
	}
	checkPromises(t, after, made)
	return after, made, code
}

// Promises 8, 9, 10 and 13, over all short rows of some events.
func TestAllShortRowsOfEvents(t *testing.T) {
	events := []impl.StuffEvent{
		makes("p", "a", "u", 2), makes("q", "b", "v", 3), makes("r", "x", "u", 1), makes("s", "x", "v", 2),
		moves("u", "v", 1), moves("v", "u", 2), moves("v", "u", 3), moves("u", "v", 3),
		takes("o", "u", 1), takes("n", "v", 2), takes("m", "u", 3), cleans("u"), cleans("v"),
	}
	var longer func(b impl.StuffBook, row []impl.StuffEvent, codes []int, made map[string]int)
	longer = func(b impl.StuffBook, row []impl.StuffEvent, codes []int, made map[string]int) {
		played, told := impl.StuffPlay(beginning(), row)
		if !sameBook(played, b) || !slices.Equal(told, codes) {
			t.Errorf("StuffPlay of %+v = %+v, %v; want %+v, %v", row, played, told, b, codes)
		}
		for _, e := range events {
			if len(row) < 3 || len(row) < 5 && codes[len(codes)-1] == 0 && codes[1] == 0 && codes[2] == 0 {
				after, madeThen, code := checkNext(t, b, e, made)
				longer(after, append(slices.Clone(row), e), append(slices.Clone(codes), code), madeThen)
			}
		}
	}
	longer(beginning(), nil, nil, map[string]int{})
}

// someEvents is rows of events that follow no rule; most of them happen.
func someEvents(dice *rand.Rand, many int) []impl.StuffEvent {
	vessels, stuffs := []string{"keg", "pan", "tun", "vat"}, []string{"ale", "lye", "malt", "water", "wort"}
	one := func(from []string) string { return from[dice.Intn(len(from))] }
	var row []impl.StuffEvent
	for range many {
		amount := 1 + dice.Intn([]int{3, 12, 40}[dice.Intn(3)])
		switch dice.Intn(8) {
		case 0, 1:
			row = append(row, makes("l"+strconv.Itoa(dice.Intn(30)), one(stuffs), one(vessels), amount))
		case 2:
			row = append(row, takes("o"+strconv.Itoa(dice.Intn(30)), one(vessels), amount))
		case 3:
			row = append(row, cleans(one(vessels)))
		default:
			row = append(row, moves(one(vessels), one(vessels), amount))
		}
	}
	return row
}

func someVessels() impl.StuffBook {
	return impl.StuffBook{Foes: foes("ale/lye", "lye/malt"), Vessels: []impl.StuffVessel{vessel("keg", 40, "", ""), vessel("pan", 7, "", ""), vessel("tun", 1000, "", ""), vessel("vat", 90, "", "")}}
}

// Promises 8, 9, 10 and 13, over long rows of events.
func TestLongRowsOfEvents(t *testing.T) {
	dice := rand.New(rand.NewSource(13))
	seen := map[int]int{}
	for range 60 {
		row := someEvents(dice, 160)
		b, made, code := someVessels(), map[string]int{}, 0
		var codes []int
		for _, e := range row {
			b, made, code = checkNext(t, b, e, made)
			codes = append(codes, code)
			seen[code]++
		}
		if played, told := impl.StuffPlay(someVessels(), row); !sameBook(played, b) || !slices.Equal(told, codes) {
			t.Errorf("StuffPlay of %+v = %+v, %v", row, played, told)
		}
	}
	for _, code := range []int{0, 2, 4, 5, 6, 7, 8, 9} {
		if seen[code] < 20 {
			t.Errorf("code %d was met but %d times", code, seen[code])
		}
	}
}

func checkPlay(t *testing.T, b impl.StuffBook, events []impl.StuffEvent, want impl.StuffBook, codes ...int) {
	t.Helper()
	if got, told := impl.StuffPlay(b, events); !slices.Equal(told, codes) || !sameBook(got, want) {
		t.Errorf("StuffPlay of %+v\nin %+v\n = %+v, %v\nwant %+v, %v", events, b, got, told, want, codes)
	}
}

func TestPlaysOfEvents(t *testing.T) {
	for _, b := range someOk() {
		checkPlay(t, b, nil, b)
		checkPlay(t, b, []impl.StuffEvent{}, b)
		checkPlay(t, b, []impl.StuffEvent{{}}, b, 2)
		checkPlay(t, b, []impl.StuffEvent{{}, cleans("none"), {Kind: 7}}, b, 2, 3, 2)
	}
	b := smallBook()
	want := clonedBook(b)
	want.Lots = lots("a1:ale a2:ale b1:beer l1:lye m1:malt w1:water")
	want.Vessels[1], want.Vessels[2], want.Vessels[3] = vessel("tun", 20, "", "l1 m1 w1"), vessel("vat", 1, "", ""), vessel("yard", 1000, "b1:3 m1:16", "b1 l1 m1 w1")
	want.Outs = append(want.Outs, out("zip", "b1:1 m1:3", "b1 l1 m1 w1"))
	row := []impl.StuffEvent{makes("b1", "beer", "yard", 4), moves("keg", "tun", 1), moves("tun", "yard", 19), cleans("vat"), takes("zip", "yard", 4), takes("zip", "yard", 4), {Kind: 9}}
	checkPlay(t, b, row, want, 0, 8, 0, 0, 0, 4, 2)
	// One with a code between others is as if it were not there.
	checkPlay(t, b, []impl.StuffEvent{row[0], row[2], row[3], row[4]}, want, 0, 0, 0, 0)
	// What happens ahead decides what happens behind.
	checkPlay(t, b, []impl.StuffEvent{moves("tun", "vat", 1), makes("b1", "ale", "vat", 1), takes("zip", "vat", 1), cleans("vat"), makes("b1", "ale", "vat", 1), takes("zap", "vat", 1), makes("b2", "lye", "vat", 1), cleans("vat"), makes("b1", "lye", "vat", 1), makes("b2", "lye", "vat", 1)},
		impl.StuffBook{Foes: b.Foes, Lots: lots("a1:ale a2:ale b1:ale b2:lye l1:lye m1:malt w1:water"),
			Vessels: []impl.StuffVessel{b.Vessels[0], vessel("tun", 20, "m1:18", "l1 m1 w1"), vessel("vat", 1, "b2:1", "b2"), b.Vessels[3]},
			Outs:    append(slices.Clone(b.Outs), out("zap", "b1:1", "b1"), out("zip", "m1:1", "l1 m1 w1"))}, 0, 7, 0, 0, 0, 0, 8, 0, 4, 0)
}

// Promise 13.
func TestPlaysAreCutAnywhere(t *testing.T) {
	dice := rand.New(rand.NewSource(29))
	for range 60 {
		row := someEvents(dice, 30)
		all, codes := impl.StuffPlay(someVessels(), row)
		if len(codes) != len(row) {
			t.Fatalf("%d codes of %d events", len(codes), len(row))
		}
		for cut := range len(row) + 1 {
			first, ahead := impl.StuffPlay(someVessels(), row[:cut])
			then, behind := impl.StuffPlay(first, row[cut:])
			if !sameBook(then, all) || !slices.Equal(append(ahead, behind...), codes) {
				t.Errorf("cut at %d: %+v, %v and %v; want %+v, %v", cut, then, ahead, behind, all, codes)
			}
		}
	}
}

func TestPlaysOfVeryManyEvents(t *testing.T) {
	long := 100000
	for _, e := range append(ofEachKind(), makes(strings.Repeat("a", 1<<20), "x", "yard", 1), takes("o", strings.Repeat("k", 1<<20), 1)) {
		_, first := impl.StuffStep(smallBook(), e)
		_, codes := impl.StuffPlay(smallBook(), slices.Repeat([]impl.StuffEvent{e}, long/10))
		if len(codes) != long/10 || codes[0] != first {
			t.Errorf("%+v: %d codes", e, len(codes))
		}
	}
	there := []impl.StuffEvent{moves("u", "v", 3), moves("v", "u", 3)}
	b := impl.StuffBook{Lots: lots("p:x q:x"), Vessels: []impl.StuffVessel{vessel("u", 3, "p:1 q:2", "p q"), vessel("v", 5, "", "p q")}}
	checkPlay(t, b, slices.Repeat(there, long/2), b, make([]int, long)...)
}

// listsIn is where the lists of a value lie, with all the room behind their ends.
func listsIn(value any) [][2]uintptr {
	var all [][2]uintptr
	eachWithin(reflect.ValueOf(value), func(v reflect.Value) {
		if v.Kind() == reflect.Slice && v.Cap() > 0 {
			all = append(all, [2]uintptr{v.Pointer(), v.Pointer() + uintptr(v.Cap())*v.Type().Elem().Size()})
		}
	})
	return all
}

// checkOwnLists says of an answer that no list of it lies where another one, or one of the arguments, does.
func checkOwnLists(t *testing.T, what string, answer any, arguments ...any) {
	t.Helper()
	var taken [][2]uintptr
	for _, argument := range arguments {
		taken = append(taken, listsIn(argument)...)
	}
	for _, list := range listsIn(answer) {
		for _, other := range taken {
			if list[0] < other[1] && other[0] < list[1] {
				t.Errorf("%s: two lists share memory: %+v", what, answer)
			}
		}
		taken = append(taken, list)
	}
}

func TestBooksBehindEventsAreNewMemory(t *testing.T) {
	for _, from := range []impl.StuffBook{smallBook(), fullBook(), {}, someVessels()} {
		for _, e := range append(ofEachKind(), makes("b1", "x", "tun", 1), moves("vessel-a", "vessel-b", 0), takes("o", "vessel-a", 3)) {
			b := roomyBook(from)
			e.Name, e.Stuff = strings.Clone(e.Name), strings.Clone(e.Stuff)
			after, code := impl.StuffStep(b, e)
			what := fmt.Sprintf("%+v, %d", e, code)
			checkOwnMemory(t, what, after, b, e)
			checkOwnLists(t, what, after, b)
		}
		b := roomyBook(from)
		row := append(ofEachKind(), ofEachKind()...)
		after, codes := impl.StuffPlay(b, row)
		checkOwnMemory(t, "StuffPlay", after, b, row)
		checkOwnLists(t, "StuffPlay", struct {
			Book  impl.StuffBook
			Codes []int
		}{after, codes}, b, row)
		none, _ := impl.StuffPlay(b, nil)
		checkOwnMemory(t, "StuffPlay of nothing", none, b)
		checkOwnLists(t, "StuffPlay of nothing", none, b)
	}
	dice := rand.New(rand.NewSource(31))
	for range 20 {
		row := someEvents(dice, 60)
		after, _ := impl.StuffPlay(someVessels(), row)
		checkOwnMemory(t, "a long row", after, row)
		checkOwnLists(t, "a long row", after, row)
	}
}

func TestEventsLeaveTheirArguments(t *testing.T) {
	for _, from := range append(spoiltBooks(), smallBook(), fullBook(), impl.StuffBook{}, someVessels()) {
		b, row := roomyBook(from), roomy(ofEachKind(), cleans("behind"))
		want, wanted := bookToTheEnd(b), slices.Clone(row[:cap(row)])
		for _, e := range append(row, makes("b1", "x", "tun", 1), takes("o", "vessel-a", 3), cleans("behind")) {
			first, code := impl.StuffStep(b, e)
			if again, is := impl.StuffStep(b, e); is != code || !sameBook(first, again) {
				t.Errorf("StuffStep of %+v was %+v, %d, and is %+v, %d", e, first, code, again, is)
			}
		}
		impl.StuffPlay(b, row)
		if !reflect.DeepEqual(bookToTheEnd(b), want) {
			t.Errorf("the book became %+v", bookToTheEnd(b))
		}
		if !slices.Equal(row[:cap(row)], wanted) {
			t.Errorf("the events became %+v", row[:cap(row)])
		}
	}
}

// What one call was given must not be seen in the next one, nor in one beside it.
func TestEventsKeepNothing(t *testing.T) {
	small, wrong, full, row := smallBook(), spoiltBooks()[0], fullBook(), someEvents(rand.New(rand.NewSource(7)), 40)
	played, codes := impl.StuffPlay(someVessels(), row)
	var callers sync.WaitGroup
	for range 8 {
		callers.Go(func() {
			for range 20 {
				checkPlay(t, someVessels(), row, played, codes...)
				checkStays(t, small, moves("keg", "tun", 1), 8)
				checkStep(t, wrong, moves("keg", "tun", 1), impl.StuffBook{}, 1)
				checkStays(t, full, takes("o", "vessel-a", 1), 5)
				checkHappens(t, small, cleans("vat"), func(b *impl.StuffBook) { b.Vessels[2].May = nil })
				checkStays(t, small, takes("cup", "tun", 1), 4)
			}
		})
	}
	callers.Wait()
}
