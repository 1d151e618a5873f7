package tests

import (
	"math"
	"reflect"
	"slices"
	"strconv"
	"strings"
	"sync"
	"testing"

	"loop.example/malthouse/impl"
)

// parts is written as "lot:amount lot:amount".
func parts(text string) []impl.StuffPart {
	var all []impl.StuffPart
	for _, field := range strings.Fields(text) {
		lot, amount, _ := strings.Cut(field, ":")
		n, err := strconv.Atoi(amount)
		if err != nil {
			panic(err)
		}
		all = append(all, impl.StuffPart{Lot: lot, Amount: n})
	}
	return all
}

func vessel(name string, most int, in, may string) impl.StuffVessel {
	return impl.StuffVessel{Name: name, Cap: most, Parts: parts(in), May: strings.Fields(may)}
}

func out(name string, in, may string) impl.StuffOut {
	return impl.StuffOut{Name: name, Parts: parts(in), May: strings.Fields(may)}
}

// foes is written as "a/b", a text each pair.
func foes(texts ...string) []impl.StuffFoe {
	var all []impl.StuffFoe
	for _, text := range texts {
		a, b, _ := strings.Cut(text, "/")
		all = append(all, impl.StuffFoe{A: a, B: b})
	}
	return all
}

// lots is written as "name:stuff name:stuff".
func lots(text string) []impl.StuffLot {
	var all []impl.StuffLot
	for _, field := range strings.Fields(text) {
		name, stuff, _ := strings.Cut(field, ":")
		all = append(all, impl.StuffLot{Name: name, Stuff: stuff})
	}
	return all
}

// smallBook leaves room for more in each list; in it are foes that may be in two vessels, and foes that are in none.
func smallBook() impl.StuffBook {
	return impl.StuffBook{
		Foes:    foes("ale/lye", "ale/malt", "lye/wort"),
		Lots:    lots("a1:ale a2:ale l1:lye m1:malt w1:water"),
		Vessels: []impl.StuffVessel{vessel("keg", 30, "a1:10 a2:5 w1:15", "a1 a2 w1"), vessel("tun", 20, "m1:19", "l1 m1 w1"), vessel("vat", 1, "", "w1"), vessel("yard", 1000, "", "")},
		Outs:    []impl.StuffOut{out("cup", "a1:1", "a1 w1"), out("jug", "l1:600 m1:400", "l1 m1"), out("pan", "", "")},
	}
}

// fullBook has as much of everything as may be, and no list has room behind its end.
func fullBook() impl.StuffBook {
	var b impl.StuffBook
	stuffs := letters(8)
	for i := range impl.StuffMaxFoes {
		b.Foes = append(b.Foes, impl.StuffFoe{A: stuffs[i/4], B: stuffs[4+i%4]})
	}
	var may []string
	var in []impl.StuffPart
	for i := range impl.StuffMaxLots {
		name := "lot-" + strconv.Itoa(10+i)
		b.Lots = append(b.Lots, impl.StuffLot{Name: name, Stuff: stuffs[i%3]})
		may = append(may, name)
		in = append(in, impl.StuffPart{Lot: name, Amount: impl.StuffMaxCap/impl.StuffMaxLots + i%2})
	}
	for i := range impl.StuffMaxVessels {
		b.Vessels = append(b.Vessels, impl.StuffVessel{Name: "vessel-" + stuffs[i], Cap: impl.StuffMaxCap, Parts: slices.Clip(slices.Clone(in)), May: slices.Clip(slices.Clone(may))})
	}
	for i := range impl.StuffMaxOuts {
		b.Outs = append(b.Outs, impl.StuffOut{Name: "out-" + strconv.Itoa(10+i), Parts: slices.Clip(slices.Clone(in)), May: slices.Clip(slices.Clone(may))})
	}
	return impl.StuffBook{Foes: slices.Clip(b.Foes), Lots: slices.Clip(b.Lots), Vessels: slices.Clip(b.Vessels), Outs: slices.Clip(b.Outs)}
}

// someOk is books that are ok, each in a way of its own.
func someOk() map[string]impl.StuffBook {
	return map[string]impl.StuffBook{
		"empty":               {},
		"empty lists":         {Foes: []impl.StuffFoe{}, Lots: []impl.StuffLot{}, Vessels: []impl.StuffVessel{}, Outs: []impl.StuffOut{}},
		"empty lists within":  {Vessels: []impl.StuffVessel{{Name: "v", Cap: 1, Parts: []impl.StuffPart{}, May: []string{}}}, Outs: []impl.StuffOut{{Name: "o", Parts: []impl.StuffPart{}, May: []string{}}}},
		"small":               smallBook(),
		"full":                fullBook(),
		"foes alone":          {Foes: foes("a/b")},
		"lots alone":          {Lots: lots("a:b")},
		"vessels alone":       {Vessels: []impl.StuffVessel{{Name: "v", Cap: 1}}},
		"outs alone":          {Outs: []impl.StuffOut{{Name: "o"}}},
		"one name for all":    {Foes: foes("x/y"), Lots: lots("x:x y:x"), Vessels: []impl.StuffVessel{vessel("x", 2, "x:1 y:1", "x y")}, Outs: []impl.StuffOut{out("y", "x:1", "x y")}},
		"foes go back by B":   {Foes: foes("a/d", "b/c")},
		"foes of one A":       {Foes: foes("a/b", "a/c", "a/d", "b/c")},
		"lots go back":        {Lots: lots("a:z b:y c:y d:a")},
		"foes side by side":   {Foes: foes("a/b"), Lots: lots("p:a q:b"), Vessels: []impl.StuffVessel{vessel("v", 5, "p:5", "p"), vessel("w", 5, "q:5", "q")}, Outs: []impl.StuffOut{out("o", "p:1", "p"), out("u", "q:1", "q")}},
		"caps go back":        {Vessels: []impl.StuffVessel{vessel("a", 9, "", ""), vessel("b", 3, "", "")}},
		"amounts go back":     {Lots: lots("p:a q:a"), Vessels: []impl.StuffVessel{vessel("v", 10, "p:7 q:3", "p q")}},
		"as much as it holds": {Lots: lots("p:a q:a"), Vessels: []impl.StuffVessel{vessel("v", 10, "q:10", "p q")}, Outs: []impl.StuffOut{out("o", "p:1000", "p q")}},
	}
}

func checkBook(t *testing.T, what string, b impl.StuffBook, want bool) {
	t.Helper()
	if got := impl.StuffBookOk(b); got != want {
		t.Errorf("%s: StuffBookOk = %v; want %v: %+v", what, got, want, b)
	}
}

func checkMeets(t *testing.T, b impl.StuffBook, x, y string, want bool) {
	t.Helper()
	if got := impl.StuffMeets(b, x, y); got != want {
		t.Errorf("StuffMeets of %q and %q = %v; want %v: %+v", x, y, got, want, b)
	}
}

func TestBooksThatAreOk(t *testing.T) {
	for what, b := range someOk() {
		checkBook(t, what, b, true)
	}
}

func TestBookOfOneTooMany(t *testing.T) {
	b := fullBook()
	b.Foes = append(b.Foes, impl.StuffFoe{A: "g", B: "h"})
	checkBook(t, "one pair of foes too many", b, false)
	b.Foes = b.Foes[1:]
	checkBook(t, "that one, without the first", b, true)
	b = fullBook()
	b.Lots = append(b.Lots, impl.StuffLot{Name: "lots", Stuff: "a"})
	checkBook(t, "one lot too many", b, false)
	b.Vessels, b.Outs, b.Lots = nil, nil, b.Lots[1:]
	checkBook(t, "that one, without the first", b, true)
	b = fullBook()
	b.Vessels = append(b.Vessels, impl.StuffVessel{Name: "z", Cap: 1})
	checkBook(t, "one vessel too many", b, false)
	b.Vessels = b.Vessels[1:]
	checkBook(t, "that one, without the first", b, true)
	b = fullBook()
	b.Outs = append(b.Outs, impl.StuffOut{Name: "z"})
	checkBook(t, "one out too many", b, false)
	b.Outs = b.Outs[1:]
	checkBook(t, "that one, without the first", b, true)
}

// checkOrder tells that a list of a book is asked to ascend: no two of it may change places, nor be the same.
func checkOrder[T any](t *testing.T, what string, b impl.StuffBook, list func(b *impl.StuffBook) *[]T) {
	t.Helper()
	for i, wrong := range swapped(*list(&b)) {
		changed := clonedBook(b)
		*list(&changed) = wrong
		checkBook(t, what+" "+strconv.Itoa(i), changed, false)
	}
}

func TestBookOutOfOrder(t *testing.T) {
	for what, b := range map[string]impl.StuffBook{"small": smallBook(), "full": fullBook()} {
		checkOrder(t, what+" foes", b, func(b *impl.StuffBook) *[]impl.StuffFoe { return &b.Foes })
		checkOrder(t, what+" vessels", b, func(b *impl.StuffBook) *[]impl.StuffVessel { return &b.Vessels })
		checkOrder(t, what+" outs", b, func(b *impl.StuffBook) *[]impl.StuffOut { return &b.Outs })
		checkOrder(t, what+" parts of a vessel", b, func(b *impl.StuffBook) *[]impl.StuffPart { return &b.Vessels[0].Parts })
		checkOrder(t, what+" parts of an out", b, func(b *impl.StuffBook) *[]impl.StuffPart { return &b.Outs[1].Parts })
		// Without Parts, and then without May, nothing but the order is wrong.
		b.Vessels[1].Parts, b.Outs[1].Parts = nil, nil
		checkOrder(t, what+" may of a vessel", b, func(b *impl.StuffBook) *[]string { return &b.Vessels[1].May })
		checkOrder(t, what+" may of an out", b, func(b *impl.StuffBook) *[]string { return &b.Outs[1].May })
		b.Vessels, b.Outs = nil, nil
		checkOrder(t, what+" lots", b, func(b *impl.StuffBook) *[]impl.StuffLot { return &b.Lots })
	}
}

func TestBookOfOneNameTwice(t *testing.T) {
	checkBook(t, "lots that differ but in Name", impl.StuffBook{Lots: lots("a:x a:y")}, false)
	checkBook(t, "vessels that differ but in Name", impl.StuffBook{Vessels: []impl.StuffVessel{vessel("a", 1, "", ""), vessel("a", 2, "", "")}}, false)
	checkBook(t, "outs that differ but in Name", impl.StuffBook{Lots: lots("p:x"), Outs: []impl.StuffOut{out("a", "", ""), out("a", "p:1", "p")}}, false)
	checkBook(t, "parts that differ but in Lot", impl.StuffBook{Lots: lots("p:x"), Vessels: []impl.StuffVessel{vessel("a", 9, "p:1 p:2", "p")}}, false)
	checkBook(t, "parts of two, of which one comes twice", impl.StuffBook{Lots: lots("p:x q:x"), Vessels: []impl.StuffVessel{vessel("a", 9, "p:1 p:2", "p q")}}, false)
	checkBook(t, "an out's, too", impl.StuffBook{Lots: lots("p:x q:x"), Outs: []impl.StuffOut{out("a", "q:1 q:2", "p q")}}, false)
}

func TestOrderOfNamesInBooks(t *testing.T) {
	names := []string{"-", "--", "0", "9", "a", "a-", "a0", "aa"}
	var all []impl.StuffLot
	for _, name := range names {
		all = append(all, impl.StuffLot{Name: name, Stuff: "x"})
	}
	for i, a := range names {
		for j, b := range names {
			what := " " + a + " " + b
			checkBook(t, "foes"+what, impl.StuffBook{Foes: []impl.StuffFoe{{A: a, B: b}}}, i < j)
			checkBook(t, "two foes by A"+what, impl.StuffBook{Foes: []impl.StuffFoe{{A: a, B: "z"}, {A: b, B: "z"}}}, i < j)
			checkBook(t, "two foes by A, ahead of B"+what, impl.StuffBook{Foes: []impl.StuffFoe{{A: a, B: "z"}, {A: b, B: "y"}}}, i < j)
			if i > 0 && j > 0 {
				checkBook(t, "two foes by B"+what, impl.StuffBook{Foes: []impl.StuffFoe{{A: "-", B: a}, {A: "-", B: b}}}, i < j)
			}
			checkBook(t, "lots"+what, impl.StuffBook{Lots: []impl.StuffLot{{Name: a, Stuff: "x"}, {Name: b, Stuff: "x"}}}, i < j)
			checkBook(t, "vessels"+what, impl.StuffBook{Vessels: []impl.StuffVessel{{Name: a, Cap: 1}, {Name: b, Cap: 1}}}, i < j)
			checkBook(t, "outs"+what, impl.StuffBook{Outs: []impl.StuffOut{{Name: a}, {Name: b}}}, i < j)
			two, in := []string{a, b}, []impl.StuffPart{{Lot: a, Amount: 1}, {Lot: b, Amount: 1}}
			checkBook(t, "may"+what, impl.StuffBook{Lots: all, Vessels: []impl.StuffVessel{{Name: "v", Cap: 9, May: two}}}, i < j)
			checkBook(t, "parts"+what, impl.StuffBook{Lots: all, Vessels: []impl.StuffVessel{{Name: "v", Cap: 9, Parts: in, May: names}}}, i < j)
			checkBook(t, "may of an out"+what, impl.StuffBook{Lots: all, Outs: []impl.StuffOut{{Name: "v", May: two}}}, i < j)
			checkBook(t, "parts of an out"+what, impl.StuffBook{Lots: all, Outs: []impl.StuffOut{{Name: "v", Parts: in, May: names}}}, i < j)
		}
	}
}

// namedInBooks is books in which a text stands where a name is asked for, and nothing else is wrong.
func namedInBooks(text string) map[string]impl.StuffBook {
	all := map[string]impl.StuffBook{
		"lot":          {Lots: []impl.StuffLot{{Name: text, Stuff: "x"}}},
		"lot of may":   {Lots: []impl.StuffLot{{Name: text, Stuff: "x"}}, Vessels: []impl.StuffVessel{{Name: "v", Cap: 1, Parts: []impl.StuffPart{{Lot: text, Amount: 1}}, May: []string{text}}}},
		"stuff":        {Lots: []impl.StuffLot{{Name: "p", Stuff: text}}},
		"second stuff": {Lots: []impl.StuffLot{{Name: "p", Stuff: "x"}, {Name: "q", Stuff: text}}},
		"vessel":       {Vessels: []impl.StuffVessel{{Name: text, Cap: 1}}},
		"out":          {Outs: []impl.StuffOut{{Name: text}}},
	}
	// A is ahead of B, so that a text can be but one of the two there.
	if text < "zzzzzzzz" {
		all["first foe"] = impl.StuffBook{Foes: []impl.StuffFoe{{A: text, B: "zzzzzzzz"}}}
	}
	if text > "-" {
		all["second foe"] = impl.StuffBook{Foes: []impl.StuffFoe{{A: "-", B: text}}}
	}
	return all
}

func TestNamesInBooks(t *testing.T) {
	eachText(func(text string, isName bool) {
		for what, b := range namedInBooks(text) {
			checkBook(t, what+" "+strconv.Quote(text), b, isName)
		}
	})
}

// atEnds is numbers, and whether they are in 1..1000.
func atEnds() map[int]bool {
	return map[int]bool{-1: false, 0: false, 1: true, 2: true, 999: true, 1000: true, 1001: false, math.MinInt: false, math.MaxInt: false, -1000: false}
}

func TestCapsOfVessels(t *testing.T) {
	for most, want := range atEnds() {
		for at := range 3 {
			vessels := []impl.StuffVessel{{Name: "a", Cap: 1}, {Name: "b", Cap: 9}, {Name: "c", Cap: 1000}}
			vessels[at].Cap = most
			checkBook(t, "cap "+strconv.Itoa(most), impl.StuffBook{Vessels: vessels}, want)
		}
	}
}

func TestAmountsOfParts(t *testing.T) {
	for amount, want := range atEnds() {
		for at, lot := range []string{"p", "q", "r"} {
			in := []impl.StuffPart{{Lot: lot, Amount: amount}}
			b := impl.StuffBook{Lots: lots("p:x q:y r:z"), Vessels: []impl.StuffVessel{{Name: "v", Cap: 1000, Parts: in, May: []string{"p", "q", "r"}}}}
			checkBook(t, "amount "+strconv.Itoa(amount), b, want)
			b = impl.StuffBook{Lots: b.Lots, Outs: []impl.StuffOut{{Name: "o", Parts: in, May: []string{"p", "q", "r"}}}}
			checkBook(t, "amount of an out "+strconv.Itoa(amount), b, want)
			in = parts("p:1 q:1 r:1")
			in[at].Amount = amount
			want := want && amount < 999
			b.Outs[0].Parts = in
			checkBook(t, "one of three amounts "+strconv.Itoa(amount), b, want)
		}
	}
}

func TestPartsTogether(t *testing.T) {
	may := "p q r"
	for _, c := range []struct {
		most int
		in   string
		want bool
	}{
		{1, "p:1", true}, {1, "p:2", false}, {1, "", true}, {9, "p:9", true}, {9, "p:10", false}, {9, "p:4 q:5", true}, {9, "p:5 q:5", false},
		{9, "p:3 q:3 r:3", true}, {9, "p:3 q:3 r:4", false}, {9, "p:4 q:3 r:3", false}, {2, "p:1 q:1 r:1", false}, {3, "p:1 q:1 r:1", true},
		{1000, "p:1000", true}, {1000, "p:999 r:1", true}, {1000, "p:1000 r:1", false}, {1000, "p:1000 q:1000 r:1000", false}, {999, "q:1000", false},
	} {
		b := impl.StuffBook{Lots: lots("p:x q:x r:y"), Vessels: []impl.StuffVessel{vessel("u", 1000, "", ""), vessel("v", c.most, c.in, may), vessel("w", 1000, "p:9", "p")}}
		checkBook(t, "of a vessel: "+c.in, b, c.want)
	}
	for in, want := range map[string]bool{"p:1000": true, "p:1": true, "": true, "p:1001": false, "p:500 q:500": true, "p:500 q:501": false, "p:501 q:500": false, "p:998 q:1 r:1": true, "p:999 q:1 r:1": false} {
		b := impl.StuffBook{Lots: lots("p:x q:x r:y"), Vessels: []impl.StuffVessel{vessel("v", 3, "", "")}, Outs: []impl.StuffOut{out("m", "p:1", "p"), out("o", in, may)}}
		checkBook(t, "of an out: "+in, b, want)
	}
	over := []impl.StuffPart{{Lot: "p", Amount: math.MaxInt}, {Lot: "q", Amount: math.MaxInt}, {Lot: "r", Amount: 3}}
	b := impl.StuffBook{Lots: lots("p:x q:x r:y"), Outs: []impl.StuffOut{{Name: "o", Parts: over, May: strings.Fields(may)}}}
	checkBook(t, "parts that are little together, going over the end", b, false)
}

func TestOutsOfVesselsNames(t *testing.T) {
	b := smallBook()
	for _, v := range b.Vessels {
		b.Outs = []impl.StuffOut{{Name: v.Name}}
		checkBook(t, "an out "+v.Name, b, false)
		b.Outs = []impl.StuffOut{{Name: "-"}, {Name: v.Name}, {Name: "zz"}}
		checkBook(t, "an out among others "+v.Name, b, false)
	}
	for _, name := range []string{"a1", "ale", "kegs", "ke", "w1", "wort"} {
		b.Outs = []impl.StuffOut{{Name: name}}
		checkBook(t, "an out "+name, b, true)
	}
}

func TestPartsOfNoMay(t *testing.T) {
	all := lots("p:x q:x r:y")
	for _, c := range []struct {
		in, may string
		want    bool
	}{
		{"p:1", "p", true}, {"p:1", "", false}, {"p:1", "q", false}, {"p:1", "q r", false}, {"p:1 q:1", "p", false}, {"p:1 q:1", "q", false}, {"p:1 r:1", "p q", false}, {"q:1", "p r", false},
		{"q:1", "p q r", true}, {"", "p q r", true}, {"z:1", "p", false}, {"x:1", "p", false}, {"z:1", "", false}, {"p:1 z:1", "p q", false},
	} {
		b := impl.StuffBook{Lots: all, Vessels: []impl.StuffVessel{vessel("u", 9, "", "p q r"), vessel("v", 9, c.in, c.may)}}
		checkBook(t, "of a vessel: "+c.in+" of "+c.may, b, c.want)
		b = impl.StuffBook{Lots: all, Outs: []impl.StuffOut{out("o", "", "p q r"), out("u", c.in, c.may)}}
		checkBook(t, "of an out: "+c.in+" of "+c.may, b, c.want)
	}
}

func TestMayOfNoLot(t *testing.T) {
	all := lots("p:x q:x r:y")
	for _, may := range [][]string{{"x"}, {"a"}, {"z"}, {""}, {"P"}, {"p", "x"}, {"a", "p"}, {"p", "pp"}, {"p", "q", "r", "z"}, {"v"}, {"\xff"}, {strings.Repeat("p", 10000)}} {
		checkBook(t, "of a vessel", impl.StuffBook{Lots: all, Vessels: []impl.StuffVessel{{Name: "v", Cap: 9, May: may}}}, false)
		checkBook(t, "of an out", impl.StuffBook{Lots: all, Outs: []impl.StuffOut{{Name: "v", May: may}}}, false)
	}
	checkBook(t, "without lots", impl.StuffBook{Vessels: []impl.StuffVessel{vessel("v", 9, "", "p")}}, false)
	checkBook(t, "an out without lots", impl.StuffBook{Outs: []impl.StuffOut{out("v", "", "p")}}, false)
}

func TestFoesInMay(t *testing.T) {
	for _, c := range []struct {
		lots, may string
		want      bool
	}{
		{"p:a q:b", "p q", false}, {"p:b q:a", "p q", false}, {"p:a q:b", "p", true}, {"p:a q:b", "q", true}, {"p:a q:a", "p q", true}, {"p:b q:b", "p q", true},
		{"p:a q:m r:b", "p q r", false}, {"p:b q:m r:a", "p q r", false}, {"p:a q:m r:b", "p q", true}, {"p:a q:m r:b", "q r", true}, {"p:a q:m r:b", "p r", false},
		{"p:m q:a r:b", "p q r", false}, {"p:a q:b r:m", "p q r", false}, {"p:m q:n r:b", "p q r", true}, {"p:b q:c", "p q", true}, {"p:a q:c", "p q", false}, {"p:c q:a", "p q", false},
	} {
		b := impl.StuffBook{Foes: foes("a/b", "a/c", "x/y"), Lots: lots(c.lots), Vessels: []impl.StuffVessel{vessel("u", 1, "", ""), vessel("v", 1, "", c.may)}}
		checkBook(t, "of a vessel: "+c.lots+" "+c.may, b, c.want)
		b.Vessels[1].May, b.Outs = nil, []impl.StuffOut{out("o", "", ""), out("s", "", c.may)}
		checkBook(t, "of an out: "+c.lots+" "+c.may, b, c.want)
		b.Foes = foes("x/y")
		checkBook(t, "they are no foes: "+c.lots+" "+c.may, b, true)
	}
}

// heldByDefinition reads a second time what is asked of a vessel's and an out's lists.
func heldByDefinition(b impl.StuffBook, in []impl.StuffPart, may []string, most int) bool {
	stuff := map[string]string{}
	for _, l := range b.Lots {
		stuff[l.Name] = l.Stuff
	}
	sum, last := 0, ""
	for i, part := range in {
		if i > 0 && part.Lot <= last || part.Amount < 1 || part.Amount > 1000 || !slices.Contains(may, part.Lot) {
			return false
		}
		sum, last = sum+part.Amount, part.Lot
	}
	var stuffs []string
	for i, x := range may {
		if _, is := stuff[x]; !is || i > 0 && may[i-1] >= x {
			return false
		}
		stuffs = append(stuffs, stuff[x])
	}
	for _, f := range b.Foes {
		if slices.Contains(stuffs, f.A) && slices.Contains(stuffs, f.B) {
			return false
		}
	}
	return sum <= most
}

func nameByDefinition(text string) bool {
	return text != "" && len(text) <= 8 && strings.Trim(text, "abcdefghijklmnopqrstuvwxyz0123456789-") == ""
}

// bookByDefinition reads the chapter a second time, line by line.
func bookByDefinition(b impl.StuffBook) bool {
	if len(b.Foes) > 12 || len(b.Lots) > 16 || len(b.Vessels) > 8 || len(b.Outs) > 12 {
		return false
	}
	for i, f := range b.Foes {
		if !nameByDefinition(f.A) || !nameByDefinition(f.B) || f.A >= f.B || i > 0 && (b.Foes[i-1].A > f.A || b.Foes[i-1].A == f.A && b.Foes[i-1].B >= f.B) {
			return false
		}
	}
	for i, l := range b.Lots {
		if !nameByDefinition(l.Name) || !nameByDefinition(l.Stuff) || i > 0 && b.Lots[i-1].Name >= l.Name {
			return false
		}
	}
	vessels := map[string]bool{}
	for i, v := range b.Vessels {
		vessels[v.Name] = true
		if !nameByDefinition(v.Name) || i > 0 && b.Vessels[i-1].Name >= v.Name || v.Cap < 1 || v.Cap > 1000 || !heldByDefinition(b, v.Parts, v.May, v.Cap) {
			return false
		}
	}
	for i, o := range b.Outs {
		if !nameByDefinition(o.Name) || i > 0 && b.Outs[i-1].Name >= o.Name || vessels[o.Name] || !heldByDefinition(b, o.Parts, o.May, 1000) {
			return false
		}
	}
	return true
}

func meetsByDefinition(b impl.StuffBook, x, y string) bool {
	if !bookByDefinition(b) {
		return false
	}
	// What may be in a vessel is told here by its stuffs.
	in := map[string][]string{}
	for _, v := range b.Vessels {
		for _, l := range b.Lots {
			if slices.Contains(v.May, l.Name) {
				in[v.Name] = append(in[v.Name], l.Stuff)
			}
		}
	}
	for _, f := range b.Foes {
		if slices.Contains(in[x], f.A) && slices.Contains(in[y], f.B) || slices.Contains(in[x], f.B) && slices.Contains(in[y], f.A) {
			return true
		}
	}
	return false
}

// eachOf tells all lists of at most so many of some.
func eachOf[T any](some []T, most int, tell func(list []T)) {
	var longer func(list []T)
	longer = func(list []T) {
		tell(list)
		if len(list) == most {
			return
		}
		for _, one := range some {
			longer(append(slices.Clone(list), one))
		}
	}
	longer(nil)
}

func TestAllShortListsOfFoesAndLots(t *testing.T) {
	var pairs []impl.StuffFoe
	var named []impl.StuffLot
	for _, a := range []string{"a", "b", "c", "C", ""} {
		for _, b := range []string{"a", "b", "c", "C", ""} {
			pairs, named = append(pairs, impl.StuffFoe{A: a, B: b}), append(named, impl.StuffLot{Name: a, Stuff: b})
		}
	}
	eachOf(pairs, 3, func(list []impl.StuffFoe) {
		b := impl.StuffBook{Foes: list}
		checkBook(t, "foes", b, bookByDefinition(b))
	})
	eachOf(named, 3, func(list []impl.StuffLot) {
		b := impl.StuffBook{Lots: list}
		checkBook(t, "lots", b, bookByDefinition(b))
	})
}

func TestAllShortListsOfVesselsAndOuts(t *testing.T) {
	var vessels []impl.StuffVessel
	var outs []impl.StuffOut
	for _, name := range []string{"a", "b", "c", "C"} {
		for _, most := range []int{0, 1, 1000, 1001} {
			vessels = append(vessels, impl.StuffVessel{Name: name, Cap: most})
		}
		outs = append(outs, impl.StuffOut{Name: name})
	}
	eachOf(vessels, 2, func(some []impl.StuffVessel) {
		eachOf(outs, 3, func(list []impl.StuffOut) {
			b := impl.StuffBook{Vessels: some, Outs: list}
			checkBook(t, "vessels and outs", b, bookByDefinition(b))
		})
	})
}

func TestAllShortListsOfPartsAndMay(t *testing.T) {
	var some []impl.StuffPart
	for _, lot := range []string{"p", "q", "x"} {
		for amount := range 4 {
			some = append(some, impl.StuffPart{Lot: lot, Amount: amount})
		}
	}
	base := impl.StuffBook{Foes: foes("a/b", "a/m"), Lots: lots("p:a q:b r:n s:m")}
	eachOf([]string{"p", "q", "r", "s", "x"}, 3, func(may []string) {
		eachOf(some, 2, func(in []impl.StuffPart) {
			b := base
			b.Vessels = []impl.StuffVessel{{Name: "v", Cap: 3, Parts: in, May: may}}
			checkBook(t, "a vessel", b, bookByDefinition(b))
			b.Vessels, b.Outs = nil, []impl.StuffOut{{Name: "v", Parts: in, May: may}}
			checkBook(t, "an out", b, bookByDefinition(b))
		})
	})
}

func clonedBook(b impl.StuffBook) impl.StuffBook {
	b.Foes, b.Lots, b.Vessels, b.Outs = slices.Clone(b.Foes), slices.Clone(b.Lots), slices.Clone(b.Vessels), slices.Clone(b.Outs)
	for i := range b.Vessels {
		b.Vessels[i].Parts, b.Vessels[i].May = slices.Clone(b.Vessels[i].Parts), slices.Clone(b.Vessels[i].May)
	}
	for i := range b.Outs {
		b.Outs[i].Parts, b.Outs[i].May = slices.Clone(b.Outs[i].Parts), slices.Clone(b.Outs[i].May)
	}
	return b
}

// textsAndNumbers points to each text and each number of a book.
func textsAndNumbers(b impl.StuffBook) (texts []*string, numbers []*int) {
	held := func(in []impl.StuffPart, may []string) {
		for i := range in {
			texts, numbers = append(texts, &in[i].Lot), append(numbers, &in[i].Amount)
		}
		for i := range may {
			texts = append(texts, &may[i])
		}
	}
	for i := range b.Foes {
		texts = append(texts, &b.Foes[i].A, &b.Foes[i].B)
	}
	for i := range b.Lots {
		texts = append(texts, &b.Lots[i].Name, &b.Lots[i].Stuff)
	}
	for i := range b.Vessels {
		texts, numbers = append(texts, &b.Vessels[i].Name), append(numbers, &b.Vessels[i].Cap)
		held(b.Vessels[i].Parts, b.Vessels[i].May)
	}
	for i := range b.Outs {
		texts = append(texts, &b.Outs[i].Name)
		held(b.Outs[i].Parts, b.Outs[i].May)
	}
	return texts, numbers
}

// eachChanged tells what becomes of a book when one text in it becomes one of these, or one number another one.
func eachChanged(from impl.StuffBook, texts []string, tell func(b impl.StuffBook)) {
	b := clonedBook(from)
	inBook, numbers := textsAndNumbers(b)
	for _, text := range inBook {
		was := *text
		for _, *text = range texts {
			tell(b)
		}
		*text = was
	}
	for _, number := range numbers {
		was := *number
		for _, *number = range []int{math.MinInt, -1, 0, 1, was - 1, was + 1, 999, 1000, 1001, math.MaxInt} {
			tell(b)
		}
		*number = was
	}
}

func TestBooksOfWhichOneThingIsChanged(t *testing.T) {
	for what, from := range someOk() {
		texts := append(namesOfBook(from), "-", "a", "b", "zzzzzzzz", "zzzzzzzzz")
		if what == "full" {
			texts = []string{"", "-", "a", "b", "e", "lot-10", "lot-17", "lot-25", "out-12", "vessel-c", "z"}
		}
		ok, not := 0, 0
		eachChanged(from, texts, func(b impl.StuffBook) {
			want := bookByDefinition(b)
			checkBook(t, what, b, want)
			if want {
				ok++
			} else {
				not++
			}
		})
		if len(from.Lots) > 1 && (ok == 0 || not == 0) {
			t.Errorf("%s: %d are ok, %d not", what, ok, not)
		}
	}
}

func TestBooksOfWhichTwoThingsAreChanged(t *testing.T) {
	from := impl.StuffBook{Foes: foes("a/b"), Lots: lots("p:a q:b"), Vessels: []impl.StuffVessel{vessel("v", 9, "p:9", "p"), vessel("w", 5, "", "q")}, Outs: []impl.StuffOut{out("o", "q:5", "q")}}
	texts := namesOfBook(from)
	eachChanged(from, texts, func(b impl.StuffBook) {
		eachChanged(b, texts, func(b impl.StuffBook) {
			checkBook(t, "two things", b, bookByDefinition(b))
			checkMeets(t, b, "v", "w", meetsByDefinition(b, "v", "w"))
		})
	})
}

func TestVesselsThatMeet(t *testing.T) {
	b := smallBook()
	for _, c := range []struct {
		x, y string
		want bool
	}{{"keg", "tun", true}, {"tun", "keg", true}, {"keg", "vat", false}, {"vat", "tun", false}, {"yard", "keg", false}, {"tun", "yard", false}, {"yard", "yard", false}} {
		checkMeets(t, b, c.x, c.y, c.want)
	}
	// What may be left counts, and not what is in there.
	b.Vessels[0].Parts, b.Vessels[1].Parts = nil, nil
	checkMeets(t, b, "keg", "tun", true)
	b.Vessels[1].May = []string{"l1", "w1"}
	checkMeets(t, b, "tun", "keg", true)
	b.Vessels[1].May = []string{"w1"}
	checkMeets(t, b, "tun", "keg", false)
	b.Vessels[0].May, b.Vessels[1].May = []string{"l1"}, []string{"a2"}
	checkMeets(t, b, "tun", "keg", true)
	checkMeets(t, b, "keg", "tun", true)
}

func TestVesselsMeetByAnyOfTheirLots(t *testing.T) {
	for _, c := range []struct{ one, other string }{{"p", "q"}, {"m p", "q"}, {"m p", "n q"}, {"p", "n q"}, {"m n p", "q"}, {"p r", "q"}, {"p", "q s"}, {"m n p r", "m n q s"}} {
		b := impl.StuffBook{Foes: foes("a/b", "c/d"), Lots: lots("m:k n:k p:a q:b r:a s:b"), Vessels: []impl.StuffVessel{vessel("v", 9, "", c.one), vessel("w", 9, "", c.other)}}
		checkMeets(t, b, "v", "w", true)
		checkMeets(t, b, "w", "v", true)
		b.Foes = foes("c/d")
		checkMeets(t, b, "v", "w", false)
	}
}

func TestMeetingOfNoVessels(t *testing.T) {
	b := smallBook()
	for _, x := range []string{"", "none", "kegs", "ke", "cup", "jug", "pan", "a1", "l1", "ale", "lye", "KEG", "keg ", "\xff", strings.Repeat("keg", 10000)} {
		for _, y := range []string{"keg", "tun", "cup", "jug", "lye", x} {
			checkMeets(t, b, x, y, false)
			checkMeets(t, b, y, x, false)
		}
	}
	checkMeets(t, impl.StuffBook{}, "", "", false)
	checkMeets(t, impl.StuffBook{Foes: foes("a/b")}, "a", "b", false)
	checkMeets(t, impl.StuffBook{Foes: foes("a/b"), Lots: lots("a:a b:b")}, "a", "b", false)
	// Of an out and a vessel that would be foes the one is none.
	checkMeets(t, impl.StuffBook{Foes: foes("a/b"), Lots: lots("p:a q:b"), Vessels: []impl.StuffVessel{vessel("v", 9, "p:1", "p")}, Outs: []impl.StuffOut{out("o", "q:1", "q")}}, "v", "o", false)
}

func TestFoesThatAreInNoMay(t *testing.T) {
	all := lots("p:a q:b r:c")
	two := func(one, other string) []impl.StuffVessel {
		return []impl.StuffVessel{vessel("v", 9, "", one), vessel("w", 9, "", other)}
	}
	checkMeets(t, impl.StuffBook{Foes: foes("a/b"), Lots: all, Vessels: two("", "")}, "v", "w", false)
	checkMeets(t, impl.StuffBook{Foes: foes("a/b"), Lots: all, Vessels: two("p", "")}, "v", "w", false)
	checkMeets(t, impl.StuffBook{Foes: foes("a/b"), Lots: all, Vessels: two("p", "r")}, "v", "w", false)
	checkMeets(t, impl.StuffBook{Foes: foes("a/b"), Lots: all, Vessels: two("p", "p")}, "v", "w", false)
	checkMeets(t, impl.StuffBook{Foes: foes("a/d", "x/y"), Lots: all, Vessels: two("p", "q r")}, "v", "w", false)
	checkMeets(t, impl.StuffBook{Foes: foes("p/q"), Lots: all, Vessels: two("p", "q")}, "v", "w", false)
	checkMeets(t, impl.StuffBook{Foes: foes("v/w"), Lots: all, Vessels: two("p", "q")}, "v", "w", false)
	checkMeets(t, impl.StuffBook{Foes: foes("a/b"), Lots: all, Vessels: two("p", "q")}, "v", "w", true)
}

// namesOfBook is all texts of a book, each once, and some that are in none.
func namesOfBook(b impl.StuffBook) []string {
	names := []string{"", "none", "A", "\xff"}
	texts, _ := textsAndNumbers(b)
	for _, text := range texts {
		names = append(names, *text)
	}
	slices.Sort(names)
	return slices.Compact(names)
}

// checkAllMeets is promise 14, of one book and all pairs of some names, held against a second reading.
func checkAllMeets(t *testing.T, b impl.StuffBook, names ...string) {
	t.Helper()
	met := map[[2]string]bool{}
	for _, x := range names {
		for _, y := range names {
			met[[2]string{x, y}] = impl.StuffMeets(b, x, y)
			if want := meetsByDefinition(b, x, y); met[[2]string{x, y}] != want {
				t.Errorf("StuffMeets of %q and %q = %v; want %v: %+v", x, y, !want, want, b)
			}
		}
	}
	for pair, is := range met {
		if is != met[[2]string{pair[1], pair[0]}] {
			t.Errorf("%q meet one way: %+v", pair, b)
		}
		if is && pair[0] == pair[1] {
			t.Errorf("%q meets itself: %+v", pair[0], b)
		}
	}
}

// Promise 14.
func TestMeetingGoesBothWays(t *testing.T) {
	for _, b := range someOk() {
		checkAllMeets(t, b, namesOfBook(b)...)
	}
	all := [][]impl.StuffFoe{nil, foes("a/b"), foes("a/c"), foes("b/c"), foes("a/b", "a/c"), foes("a/b", "b/c"), foes("a/c", "b/c"), foes("a/b", "a/c", "b/c")}
	met := 0
	for _, pairs := range all {
		for one := range 16 {
			for other := range 16 {
				names := []string{"p", "q", "r", "s"}
				b := impl.StuffBook{Foes: pairs, Lots: lots("p:a q:b r:c s:a"), Vessels: []impl.StuffVessel{{Name: "v", Cap: 1, May: pick(names, one)}, {Name: "w", Cap: 1, May: pick(names, other)}}}
				checkAllMeets(t, b, "p", "v", "w")
				if impl.StuffMeets(b, "v", "w") {
					met++
				}
			}
		}
	}
	if met == 0 {
		t.Error("no two met")
	}
}

// spoiltBooks is books that are not ok, by each of their lists, in all of which two vessels would meet.
func spoiltBooks() []impl.StuffBook {
	var all []impl.StuffBook
	for _, f := range []func(b *impl.StuffBook){
		func(b *impl.StuffBook) { b.Foes = append(b.Foes, b.Foes[0]) },
		func(b *impl.StuffBook) { b.Foes = append(b.Foes, impl.StuffFoe{A: "water", B: "water"}) },
		func(b *impl.StuffBook) { b.Foes[2].B = "Wort" },
		func(b *impl.StuffBook) { b.Lots = append(b.Lots, b.Lots[4]) },
		func(b *impl.StuffBook) { b.Lots[4].Stuff = "" },
		func(b *impl.StuffBook) { b.Lots[4].Name = "w2" },
		func(b *impl.StuffBook) { b.Vessels[3].Cap = 0 },
		func(b *impl.StuffBook) { b.Vessels[3].Name = "vat" },
		func(b *impl.StuffBook) { b.Vessels[2].May = []string{"none"} },
		func(b *impl.StuffBook) { b.Vessels[2].Parts = parts("a1:1") },
		func(b *impl.StuffBook) { b.Vessels[2].Parts = parts("w1:2") },
		func(b *impl.StuffBook) { b.Vessels[2].May = []string{"a1", "m1"} },
		func(b *impl.StuffBook) { b.Vessels[0].May = []string{"a1", "a2", "l1", "w1"} },
		func(b *impl.StuffBook) { b.Outs[0].Name = "keg" },
		func(b *impl.StuffBook) { b.Outs[2].Name = "jug" },
		func(b *impl.StuffBook) { b.Outs[2].May = []string{"a1", "l1"} },
		func(b *impl.StuffBook) { b.Outs[1].Parts[0].Amount = 601 },
		func(b *impl.StuffBook) { b.Outs[1].May = []string{"l1"} },
	} {
		b := smallBook()
		f(&b)
		all = append(all, b)
	}
	return all
}

func TestMeetingInBooksThatAreNotOk(t *testing.T) {
	for i, b := range spoiltBooks() {
		checkBook(t, "spoilt "+strconv.Itoa(i), b, false)
		for _, x := range []string{"keg", "tun", "vat", "yard", "cup", "none"} {
			for _, y := range []string{"keg", "tun", "vat", "yard", "cup", "none"} {
				checkMeets(t, b, x, y, false)
			}
		}
	}
}

// roomyBook has room behind the end of each list, in which something stands.
func roomyBook(from impl.StuffBook) impl.StuffBook {
	b := clonedBook(from)
	behind := impl.StuffPart{Lot: "behind", Amount: 7}
	for i, v := range b.Vessels {
		b.Vessels[i].Parts, b.Vessels[i].May = roomy(v.Parts, behind), roomy(v.May, "behind")
	}
	for i, o := range b.Outs {
		b.Outs[i].Parts, b.Outs[i].May = roomy(o.Parts, behind), roomy(o.May, "behind")
	}
	return impl.StuffBook{
		Foes:    roomy(b.Foes, impl.StuffFoe{A: "behind"}),
		Lots:    roomy(b.Lots, impl.StuffLot{Name: "behind"}),
		Vessels: roomy(b.Vessels, impl.StuffVessel{Name: "behind"}),
		Outs:    roomy(b.Outs, impl.StuffOut{Name: "behind"}),
	}
}

// bookToTheEnd is a book with all that stands in the room behind its lists, in memory of its own.
func bookToTheEnd(b impl.StuffBook) impl.StuffBook {
	b = impl.StuffBook{Foes: slices.Clone(b.Foes[:cap(b.Foes)]), Lots: slices.Clone(b.Lots[:cap(b.Lots)]), Vessels: slices.Clone(b.Vessels[:cap(b.Vessels)]), Outs: slices.Clone(b.Outs[:cap(b.Outs)])}
	for i, v := range b.Vessels {
		b.Vessels[i].Parts, b.Vessels[i].May = slices.Clone(v.Parts[:cap(v.Parts)]), slices.Clone(v.May[:cap(v.May)])
	}
	for i, o := range b.Outs {
		b.Outs[i].Parts, b.Outs[i].May = slices.Clone(o.Parts[:cap(o.Parts)]), slices.Clone(o.May[:cap(o.May)])
	}
	return b
}

func TestBooksAreNotWrittenInto(t *testing.T) {
	for _, from := range append(spoiltBooks(), smallBook(), fullBook(), impl.StuffBook{}) {
		b := roomyBook(from)
		want := bookToTheEnd(b)
		first := impl.StuffBookOk(b)
		impl.StuffMeets(b, "keg", "tun")
		impl.StuffMeets(b, "vessel-a", "vessel-b")
		impl.StuffMeets(b, "behind", "keg")
		if again := impl.StuffBookOk(b); again != first {
			t.Errorf("StuffBookOk was %v and is %v", first, again)
		}
		if !reflect.DeepEqual(bookToTheEnd(b), want) {
			t.Errorf("the book became %+v", bookToTheEnd(b))
		}
	}
}

func TestBookOfVeryLongLists(t *testing.T) {
	long := 100000
	names := make([]string, long)
	in := make([]impl.StuffPart, long)
	for i := range in {
		names[i] = strconv.Itoa(1000000 + i)
		in[i] = impl.StuffPart{Lot: names[i], Amount: 1000}
	}
	for what, b := range map[string]impl.StuffBook{
		"foes":               {Foes: make([]impl.StuffFoe, long)},
		"lots":               {Lots: make([]impl.StuffLot, long)},
		"vessels":            {Vessels: make([]impl.StuffVessel, long)},
		"outs":               {Outs: make([]impl.StuffOut, long)},
		"may of a vessel":    {Vessels: []impl.StuffVessel{{Name: "v", Cap: 1, May: names}}},
		"may of an out":      {Outs: []impl.StuffOut{{Name: "v", May: names}}},
		"parts of a vessel":  {Lots: lots("p:x"), Vessels: []impl.StuffVessel{{Name: "v", Cap: 1, Parts: in, May: []string{"p"}}}},
		"parts of an out":    {Lots: lots("p:x"), Outs: []impl.StuffOut{{Name: "v", Parts: in, May: []string{"p"}}}},
		"one part for long":  {Lots: lots("p:x"), Outs: []impl.StuffOut{{Name: "v", Parts: slices.Repeat(parts("p:1000"), long), May: []string{"p"}}}},
		"one lot for long":   {Lots: lots("p:x"), Outs: []impl.StuffOut{{Name: "v", May: slices.Repeat([]string{"p"}, long)}}},
		"one name of a foes": {Foes: slices.Repeat(foes("a/b"), long)},
	} {
		checkBook(t, what, b, false)
		checkMeets(t, b, "v", "v", false)
		checkMeets(t, b, "", "", false)
	}
}

// What one call was given must not be seen in the next one, nor in one beside it.
func TestBooksKeepNothing(t *testing.T) {
	small, full := smallBook(), fullBook()
	friends, wrong := smallBook(), spoiltBooks()[0]
	friends.Foes = foes("lye/wort")
	var callers sync.WaitGroup
	for range 8 {
		callers.Go(func() {
			for range 50 {
				checkBook(t, "small", small, true)
				checkMeets(t, small, "keg", "tun", true)
				checkBook(t, "wrong", wrong, false)
				checkMeets(t, wrong, "keg", "tun", false)
				checkMeets(t, friends, "keg", "tun", false)
				checkBook(t, "full", full, true)
				checkMeets(t, full, "vessel-a", "vessel-b", false)
				checkMeets(t, small, "tun", "keg", true)
			}
		})
	}
	callers.Wait()
}
