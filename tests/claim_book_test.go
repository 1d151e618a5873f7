package tests

import (
	"math"
	"math/rand"
	"reflect"
	"slices"
	"strconv"
	"strings"
	"sync"
	"testing"

	"loop.example/malthouse/impl"
)

// claimFoes is written as "a/b", a text each pair.
func claimFoes(texts ...string) []impl.ClaimFoe {
	var all []impl.ClaimFoe
	for _, text := range texts {
		a, b, _ := strings.Cut(text, "/")
		all = append(all, impl.ClaimFoe{A: a, B: b})
	}
	return all
}

func spot(name string, holds, least, most int, may string) impl.ClaimSpot {
	return impl.ClaimSpot{Name: name, Cap: holds, Least: least, Most: most, May: strings.Fields(may)}
}

func granted(wants ...impl.ClaimWant) []impl.ClaimPart {
	var all []impl.ClaimPart
	for _, w := range wants {
		all = append(all, impl.ClaimPart{Want: w})
	}
	return all
}

// smallClaims leaves room for more in each list; in it are a part of each kind and each role, and valves that two keep shut.
func smallClaims() impl.ClaimBook {
	b := impl.ClaimBook{
		Foes: claimFoes("ale/lye", "lye/malt", "lye/wort"),
		Spots: []impl.ClaimSpot{
			spot("j", 0, 0, 0, "ale water"), spot("keg", 30, 5, 20, "ale"), spot("pan", 9, 3, 3, "lye"),
			spot("tun", 20, 2, 12, "ale malt water"), spot("vat", 10, 0, 0, "lye"), spot("yard", 1000, 0, 1000, ""),
		},
		Valves: strings.Fields("v1 v2 v3 v4 v5"),
		Parts:  granted(moveOf(3, "ale water", "j keg>10 tun<8", "v1 v2", "v3"), cleanOf(5, "vat", "v3 v4"), permitOf(8, "yard", "v4")),
		Seen:   9,
	}
	b.Parts[1].Stopped = true
	return b
}

// fullClaims has as much of everything as may be.
func fullClaims() impl.ClaimBook {
	stuffs := numbered("stuff-", impl.ClaimMaxStuffs)
	b := impl.ClaimBook{Valves: numbered("v", impl.ClaimMaxValves), Seen: impl.ClaimMaxNumber}
	for _, name := range numbered("foe-", impl.ClaimMaxFoes) {
		b.Foes = append(b.Foes, impl.ClaimFoe{A: name, B: stuffs[0]})
	}
	for _, name := range numbered("place-", impl.ClaimMaxSpots) {
		b.Spots = append(b.Spots, impl.ClaimSpot{Name: name, Cap: impl.ClaimMaxCap, Most: impl.ClaimMaxCap, May: slices.Clone(stuffs)})
	}
	for i := range impl.ClaimMaxParts {
		w := impl.ClaimWant{Number: impl.ClaimMaxNumber - impl.ClaimMaxParts + 1 + i, Kind: impl.ClaimMove, Stuffs: slices.Clone(stuffs), Opens: slices.Clone(b.Valves[i : i+1]), Shuts: slices.Clone(b.Valves[6:])}
		w.Uses = []impl.ClaimUse{{Name: b.Spots[i].Name, Role: 1 + i%2, Amount: impl.ClaimMaxCap}}
		b.Parts = append(b.Parts, impl.ClaimPart{Want: w, Stopped: i%3 == 0})
	}
	b.Parts[5].Want.Uses = append(b.Parts[5].Want.Uses, impl.ClaimUse{Name: b.Spots[6].Name, Role: impl.ClaimBy}, impl.ClaimUse{Name: b.Spots[7].Name, Role: impl.ClaimBy})
	return b
}

// allOfOne has one part that uses all places, and one that turns all valves.
func allOfOne() impl.ClaimBook {
	b := fullClaims()
	w := impl.ClaimWant{Number: 1, Kind: impl.ClaimMove, Stuffs: b.Spots[0].May}
	for _, s := range b.Spots {
		w.Uses = append(w.Uses, impl.ClaimUse{Name: s.Name, Role: impl.ClaimTo, Amount: impl.ClaimMaxCap})
	}
	b.Parts = granted(w, impl.ClaimWant{Number: 2, Kind: impl.ClaimMove, Stuffs: []string{"any"}, Opens: b.Valves})
	return copied(b)
}

// someClaims is books that are ok, each in a way of its own.
func someClaims() map[string]impl.ClaimBook {
	return map[string]impl.ClaimBook{
		"empty":              {},
		"empty lists":        {Foes: []impl.ClaimFoe{}, Spots: []impl.ClaimSpot{}, Valves: []string{}, Parts: []impl.ClaimPart{}},
		"empty lists within": {Spots: []impl.ClaimSpot{{Name: "p", May: []string{}}}, Valves: []string{"v"}, Parts: []impl.ClaimPart{{Want: impl.ClaimWant{Number: 1, Kind: impl.ClaimPermit, Stuffs: []string{}, Uses: []impl.ClaimUse{}, Opens: []string{}, Shuts: []string{"v"}}}}, Seen: 1},
		"small":              smallClaims(),
		"full":               fullClaims(),
		"all of one":         allOfOne(),
		"foes alone":         {Foes: claimFoes("a/b")},
		"spots alone":        {Spots: []impl.ClaimSpot{spot("p", 9, 2, 5, "a b")}},
		"valves alone":       {Valves: []string{"v"}},
		"seen alone":         {Seen: 1},
		"one name for all":   {Foes: claimFoes("x/y"), Spots: []impl.ClaimSpot{spot("x", 9, 2, 5, "x"), spot("y", 9, 2, 5, "x")}, Valves: []string{"x", "y"}, Parts: granted(moveOf(1, "x", "x>1", "y", ""), moveOf(2, "x", "y<1", "x", "")), Seen: 2},
		"foes go back by B":  {Foes: claimFoes("a/d", "b/c")},
		"foes of one A":      {Foes: claimFoes("a/b", "a/c", "a/d", "b/c")},
		"foes side by side":  {Foes: claimFoes("a/b"), Spots: []impl.ClaimSpot{spot("p", 9, 2, 5, "a"), spot("q", 9, 2, 5, "b")}},
		"caps go back":       {Spots: []impl.ClaimSpot{spot("p", 9, 8, 8, ""), spot("q", 3, 1, 2, "")}},
		"foes that are moved out of a place where neither may be left": {Foes: claimFoes("a/b"), Spots: []impl.ClaimSpot{spot("p", 9, 0, 9, "")}, Parts: granted(moveOf(1, "a b", "p>1", "", "")), Seen: 1},
	}
}

func checkClaims(t *testing.T, what string, b impl.ClaimBook, want bool) {
	t.Helper()
	if got := impl.ClaimBookOk(b); got != want {
		t.Errorf("%s: ClaimBookOk = %v; want %v: %+v", what, got, want, b)
	}
}

func TestClaimBooksThatAreOk(t *testing.T) {
	for what, b := range someClaims() {
		checkClaims(t, what, b, true)
	}
}

func TestClaimBookOfOneTooMany(t *testing.T) {
	if impl.ClaimMaxFoes != 12 || impl.ClaimMaxSpots != 8 || impl.ClaimMaxValves != 12 || impl.ClaimMaxParts != 6 || impl.ClaimMaxStuffs != 8 || impl.ClaimMaxCap != 1000 || impl.ClaimMaxNumber != 1000000 || impl.ClaimMaxName != 8 || impl.ClaimMaxUses != 8 || impl.ClaimMaxTurns != 12 {
		t.Error("the limits are not the document's")
	}
	b := fullClaims()
	b.Foes = append(b.Foes, impl.ClaimFoe{A: "y", B: "z"})
	checkClaims(t, "one pair of foes too many", b, false)
	b.Foes = b.Foes[1:]
	checkClaims(t, "that one, without the first", b, true)
	b = fullClaims()
	b.Spots = append(b.Spots, impl.ClaimSpot{Name: "z"})
	checkClaims(t, "one spot too many", b, false)
	b.Spots, b.Parts = b.Spots[1:], b.Parts[1:]
	checkClaims(t, "that one, without the first", b, true)
	b = fullClaims()
	b.Valves = append(b.Valves, "z")
	checkClaims(t, "one valve too many", b, false)
	b.Valves, b.Parts = b.Valves[1:], b.Parts[1:]
	checkClaims(t, "that one, without the first", b, true)
	b = fullClaims()
	for i := range b.Parts {
		b.Parts[i].Want.Number--
	}
	b.Parts = append(b.Parts, granted(permitOf(impl.ClaimMaxNumber, "", "v20"))...)
	checkClaims(t, "one part too many", b, false)
	b.Parts = b.Parts[1:]
	checkClaims(t, "that one, without the first", b, true)
	for at := range impl.ClaimMaxSpots {
		b = fullClaims()
		b.Parts = nil
		b.Spots[at].May = append(b.Spots[at].May, "z")
		checkClaims(t, "one of May too many", b, false)
		b.Spots[at].May = b.Spots[at].May[1:]
		checkClaims(t, "that one, without the first", b, true)
	}
}

// checkClaimsOrder tells that a list of a book is asked to ascend: no two of it may change places, nor be the same.
func checkClaimsOrder[T any](t *testing.T, what string, b impl.ClaimBook, list func(b *impl.ClaimBook) *[]T) {
	t.Helper()
	if checkClaims(t, what, b, true); len(*list(&b)) < 2 {
		t.Errorf("%s: too few to be out of order", what)
	}
	for i, wrong := range swapped(*list(&b)) {
		changed := copied(b)
		*list(&changed) = wrong
		checkClaims(t, what+" "+strconv.Itoa(i), changed, false)
	}
}

func TestClaimBooksOutOfOrder(t *testing.T) {
	for what, b := range map[string]impl.ClaimBook{"small": smallClaims(), "full": fullClaims()} {
		checkClaimsOrder(t, what+" foes", b, func(b *impl.ClaimBook) *[]impl.ClaimFoe { return &b.Foes })
		checkClaimsOrder(t, what+" spots", b, func(b *impl.ClaimBook) *[]impl.ClaimSpot { return &b.Spots })
		checkClaimsOrder(t, what+" parts", b, func(b *impl.ClaimBook) *[]impl.ClaimPart { return &b.Parts })
		checkClaimsOrder(t, what+" valves", b, func(b *impl.ClaimBook) *[]string { return &b.Valves })
		// Without parts nothing but the order is wrong.
		b.Parts = nil
		checkClaimsOrder(t, what+" spots alone", b, func(b *impl.ClaimBook) *[]impl.ClaimSpot { return &b.Spots })
		checkClaimsOrder(t, what+" valves alone", b, func(b *impl.ClaimBook) *[]string { return &b.Valves })
		for _, at := range []int{0, 3} {
			checkClaimsOrder(t, what+" may", b, func(b *impl.ClaimBook) *[]string { return &b.Spots[at].May })
		}
	}
	// These differ in all but the number, and what one claims the other does not.
	spots := []impl.ClaimSpot{spot("p", 0, 0, 0, ""), spot("q", 0, 0, 0, "")}
	checkClaims(t, "one number twice", impl.ClaimBook{Spots: spots, Parts: granted(cleanOf(4, "p", ""), permitOf(4, "q", "")), Seen: 9}, false)
	checkClaims(t, "numbers that go back", impl.ClaimBook{Spots: spots, Parts: granted(cleanOf(5, "p", ""), permitOf(4, "q", "")), Seen: 9}, false)
	checkClaims(t, "numbers that ascend", impl.ClaimBook{Spots: spots, Parts: granted(cleanOf(4, "q", ""), permitOf(5, "p", "")), Seen: 9}, true)
	checkClaims(t, "numbers that ascend by their worth", impl.ClaimBook{Spots: spots, Parts: granted(cleanOf(9, "p", ""), permitOf(10, "q", "")), Seen: 10}, true)
	checkClaims(t, "numbers that ascend as texts", impl.ClaimBook{Spots: spots, Parts: granted(cleanOf(10, "p", ""), permitOf(9, "q", "")), Seen: 10}, false)
	checkClaims(t, "one place twice", impl.ClaimBook{Spots: []impl.ClaimSpot{spot("p", 1, 0, 1, ""), spot("p", 2, 0, 1, "")}}, false)
}

func TestOrderOfNamesInClaimBooks(t *testing.T) {
	names := []string{"-", "--", "0", "9", "a", "a-", "a0", "aa"}
	for i, a := range names {
		for j, b := range names {
			what := " " + a + " " + b
			checkClaims(t, "foes"+what, impl.ClaimBook{Foes: []impl.ClaimFoe{{A: a, B: b}}}, i < j)
			checkClaims(t, "two foes by A"+what, impl.ClaimBook{Foes: []impl.ClaimFoe{{A: a, B: "z"}, {A: b, B: "z"}}}, i < j)
			checkClaims(t, "two foes by A, ahead of B"+what, impl.ClaimBook{Foes: []impl.ClaimFoe{{A: a, B: "z"}, {A: b, B: "y"}}}, i < j)
			if i > 0 && j > 0 {
				checkClaims(t, "two foes by B"+what, impl.ClaimBook{Foes: []impl.ClaimFoe{{A: "-", B: a}, {A: "-", B: b}}}, i < j)
			}
			checkClaims(t, "spots"+what, impl.ClaimBook{Spots: []impl.ClaimSpot{{Name: a}, {Name: b}}}, i < j)
			checkClaims(t, "may"+what, impl.ClaimBook{Spots: []impl.ClaimSpot{{Name: "p", May: []string{a, b}}}}, i < j)
			checkClaims(t, "valves"+what, impl.ClaimBook{Valves: []string{a, b}}, i < j)
		}
	}
}

// namedInClaims is books in which a text stands where a name is asked for, and nothing else is wrong.
func namedInClaims(text string) map[string]impl.ClaimBook {
	all := map[string]impl.ClaimBook{
		"spot":          {Spots: []impl.ClaimSpot{{Name: text}}},
		"may":           {Spots: []impl.ClaimSpot{{Name: "p", May: []string{text}}}},
		"may of second": {Spots: []impl.ClaimSpot{{Name: "p"}, {Name: "q", May: []string{text}}}},
		"valve":         {Valves: []string{text}},
		"spot of part":  {Spots: []impl.ClaimSpot{{Name: text}}, Parts: []impl.ClaimPart{{Want: impl.ClaimWant{Number: 1, Kind: impl.ClaimPermit, Uses: []impl.ClaimUse{{Name: text, Role: impl.ClaimBy}}}}}, Seen: 1},
		"valve of part": {Valves: []string{text}, Parts: []impl.ClaimPart{{Want: impl.ClaimWant{Number: 1, Kind: impl.ClaimPermit, Shuts: []string{text}}}}, Seen: 1},
		"stuff of part": {Valves: []string{"v"}, Parts: []impl.ClaimPart{{Want: impl.ClaimWant{Number: 1, Kind: impl.ClaimMove, Stuffs: []string{text}, Shuts: []string{"v"}}}}, Seen: 1},
	}
	// A is ahead of B, so that a text can be but one of the two there; and what stands behind another one is the later one.
	if text < "zzzzzzzz" {
		all["first foe"] = impl.ClaimBook{Foes: []impl.ClaimFoe{{A: text, B: "zzzzzzzz"}}}
	}
	if text > "-" {
		all["second foe"] = impl.ClaimBook{Foes: []impl.ClaimFoe{{A: "-", B: text}}}
		all["second spot"] = impl.ClaimBook{Spots: []impl.ClaimSpot{{Name: "-"}, {Name: text}}}
		all["second of may"] = impl.ClaimBook{Spots: []impl.ClaimSpot{{Name: "p", May: []string{"-", text}}}}
		all["second valve"] = impl.ClaimBook{Valves: []string{"-", text}}
	}
	return all
}

func TestNamesInClaimBooks(t *testing.T) {
	eachText(func(text string, isName bool) {
		for what, b := range namedInClaims(text) {
			checkClaims(t, what+" "+strconv.Quote(text), b, isName)
		}
	})
}

func TestFoesOfNobody(t *testing.T) {
	for _, f := range []impl.ClaimFoe{{A: "a", B: "a"}, {A: "b", B: "a"}, {A: "", B: "a"}, {A: "a", B: ""}, {}, {A: "A", B: "a"}, {A: "a", B: "b c"}, {A: "ab", B: "a"}} {
		for at := range 3 {
			b := impl.ClaimBook{Foes: slices.Insert(claimFoes("-/a", "y/z"), at, f)}
			checkClaims(t, "wrong foes", b, false)
		}
		checkClaims(t, "wrong foes alone", impl.ClaimBook{Foes: []impl.ClaimFoe{f}}, false)
	}
}

func TestLeastMostAndCap(t *testing.T) {
	for _, c := range []struct {
		holds, least, most int
		want               bool
	}{
		{0, 0, 0, true}, {-1, 0, 0, false}, {-1, -1, -1, false}, {0, 0, 1, false}, {0, 1, 1, false}, {0, -1, 0, false}, {0, 0, -1, false},
		{1, 0, 0, true}, {1, 0, 1, true}, {1, 1, 1, true}, {1, 1, 0, false}, {1, 0, 2, false}, {1, -1, 1, false}, {9, 4, 4, true}, {9, 5, 4, false}, {9, 4, 5, true}, {9, 9, 9, true}, {9, 9, 10, false}, {9, 10, 10, false}, {9, 10, 9, false},
		{1000, 0, 1000, true}, {1000, 1000, 1000, true}, {1000, 0, 0, true}, {1001, 0, 0, false}, {1001, 1001, 1001, false}, {1001, 1, 2, false}, {999, 0, 1000, false}, {1000, 0, 1001, false}, {1000, 1001, 1000, false},
		{math.MaxInt, 0, 0, false}, {math.MaxInt, math.MinInt, math.MaxInt, false}, {math.MinInt, 0, 0, false}, {9, math.MinInt, 5, false}, {9, 5, math.MaxInt, false}, {9, math.MaxInt, 9, false}, {9, 0, math.MinInt, false}, {1 + 1<<32, 0, 0, false},
	} {
		for at := range 3 {
			spots := []impl.ClaimSpot{spot("a", 1, 0, 1, ""), spot("b", 0, 0, 0, "x"), spot("c", 1000, 1, 9, "y")}
			spots[at].Cap, spots[at].Least, spots[at].Most = c.holds, c.least, c.most
			checkClaims(t, "a spot", impl.ClaimBook{Spots: spots}, c.want)
		}
	}
}

// Promise 16, of what a book must be.
func TestFoesThatMayBeLeftInOnePlace(t *testing.T) {
	for _, c := range []struct {
		may  string
		want bool
	}{
		{"", true}, {"a", true}, {"b", true}, {"a b", false}, {"a c", false}, {"b c", true}, {"a d", true}, {"a b c", false}, {"a d e", true}, {"a d e f", true}, {"b c d e f", true},
		{"a d e x y", false}, {"x y", false}, {"a x", true}, {"b y", true}, {"0 a b", false}, {"0 a z", true}, {"a d b", false}, {"d x y z", false}, {"a aa ab", true}, {"b bb c y z", true},
	} {
		for at := range 3 {
			spots := []impl.ClaimSpot{spot("p", 9, 1, 2, ""), spot("q", 0, 0, 0, "a"), spot("r", 9, 0, 0, "b")}
			spots[at].May = strings.Fields(c.may)
			b := impl.ClaimBook{Foes: claimFoes("a/b", "a/c", "x/y"), Spots: spots}
			checkClaims(t, "may "+c.may, b, c.want)
			b.Foes = claimFoes("m/n")
			checkClaims(t, "they are no foes: "+c.may, b, slices.IsSorted(spots[at].May))
		}
	}
	all := numbered("s", impl.ClaimMaxStuffs)
	for i, a := range all {
		for j, b := range all {
			book := impl.ClaimBook{Foes: []impl.ClaimFoe{{A: a, B: b}}, Spots: []impl.ClaimSpot{{Name: "p", May: all}}}
			checkClaims(t, "any two of as many as may be", book, false)
			book.Spots[0].May = slices.DeleteFunc(slices.Clone(all), func(s string) bool { return s == a })
			checkClaims(t, "one of the two is not there", book, i < j)
		}
	}
}

func TestValvesOfAStation(t *testing.T) {
	names := numbered("v", impl.ClaimMaxValves+2)
	for many := range len(names) + 1 {
		checkClaims(t, strconv.Itoa(many)+" valves", impl.ClaimBook{Valves: names[:many]}, many <= 12)
	}
	many := numbered("p", impl.ClaimMaxSpots+2)
	for i := range len(many) + 1 {
		var b impl.ClaimBook
		for _, name := range many[:i] {
			b.Spots = append(b.Spots, impl.ClaimSpot{Name: name, May: []string{"x"}})
		}
		checkClaims(t, strconv.Itoa(i)+" spots", b, i <= 8)
	}
}

func TestSeen(t *testing.T) {
	for seen, want := range map[int]bool{math.MinInt: false, -1000000: false, -1: false, 0: true, 1: true, 2: true, 999999: true, 1000000: true, 1000001: false, 1 + 1<<32: false, math.MaxInt: false} {
		checkClaims(t, "seen "+strconv.Itoa(seen), impl.ClaimBook{Seen: seen}, want)
		b := smallClaims()
		b.Seen = seen
		checkClaims(t, "seen with parts "+strconv.Itoa(seen), b, want && seen >= 8)
		b.Parts = nil
		checkClaims(t, "seen without parts "+strconv.Itoa(seen), b, want)
	}
	for seen := range 12 {
		b := smallClaims()
		b.Seen = seen
		checkClaims(t, "none above Seen", b, seen >= 8)
		b.Parts = b.Parts[:2]
		checkClaims(t, "none of two above Seen", b, seen >= 5)
		b.Parts = b.Parts[:1]
		checkClaims(t, "not one above Seen", b, seen >= 3)
	}
}

func TestPartsOfWantsThatAreNotOk(t *testing.T) {
	base := impl.ClaimBook{
		Spots:  []impl.ClaimSpot{spot("j", 9, 0, 9, "ale malt water"), spot("keg", 9, 0, 9, "ale malt water"), spot("tun", 9, 0, 9, "ale malt water")},
		Valves: strings.Fields("v1 v2 v3 v4 v5"),
		Seen:   impl.ClaimMaxNumber,
	}
	ok := base
	ok.Parts = granted(smallMove())
	checkClaims(t, "a want that is ok", ok, true)
	for i, w := range spoiltWants() {
		b := base
		b.Parts = granted(w)
		checkClaims(t, "spoilt "+strconv.Itoa(i), b, false)
		b.Parts = granted(permitOf(1, "", "v5"), w)
		checkClaims(t, "spoilt, and the second "+strconv.Itoa(i), b, false)
		b.Parts[1].Stopped = true
		checkClaims(t, "spoilt and stopped "+strconv.Itoa(i), b, false)
	}
	checkClaims(t, "a part that is nothing", impl.ClaimBook{Parts: []impl.ClaimPart{{}}, Seen: 9}, false)
	checkClaims(t, "a stopped part that is nothing", impl.ClaimBook{Parts: []impl.ClaimPart{{Stopped: true}}}, false)
	// What is no name is none of a book that is ok; what is asked of a want alone cannot be seen there.
	for _, w := range []impl.ClaimWant{{Number: 1, Kind: impl.ClaimMove, Stuffs: []string{"Ale"}, Shuts: []string{"v1"}}, {Number: 1, Kind: impl.ClaimMove, Stuffs: numbered("s", 9), Shuts: []string{"v1"}}, {Number: 1, Kind: impl.ClaimPermit}, {Number: 0, Kind: impl.ClaimPermit, Shuts: []string{"v1"}}, {Number: 1, Kind: 4, Shuts: []string{"v1"}}, {Number: 1, Kind: impl.ClaimClean, Opens: []string{"v1"}}} {
		b := base
		b.Parts = granted(w)
		checkClaims(t, "a want that the book alone could not refuse", b, false)
	}
}

func TestWantsThatAreNotKnown(t *testing.T) {
	spots, valves := []impl.ClaimSpot{spot("p", 9, 0, 9, ""), spot("q", 9, 0, 9, "a"), spot("s", 9, 0, 0, "")}, []string{"u", "v", "y"}
	check := func(what string, w impl.ClaimWant, want bool) {
		t.Helper()
		b := impl.ClaimBook{Spots: spots, Valves: valves, Parts: granted(w), Seen: 9}
		checkClaims(t, what, b, want)
		b.Parts[0].Stopped = true
		checkClaims(t, what+", stopped", b, want)
		b.Valves, b.Parts = append(slices.Clone(valves), "zz"), granted(permitOf(2, "", "zz"), w)
		checkClaims(t, what+", as the second", b, want)
	}
	check("known places", permitOf(3, "p q s", ""), true)
	check("a known place", permitOf(3, "q", ""), true)
	check("a place that is none", permitOf(3, "r", ""), false)
	check("a place ahead of all", permitOf(3, "a", ""), false)
	check("a place behind all", permitOf(3, "z", ""), false)
	check("the first place is none", permitOf(3, "o p", ""), false)
	check("the second place is none", permitOf(3, "p r", ""), false)
	check("a place that begins so", permitOf(3, "pp", ""), false)
	check("a valve as a place", permitOf(3, "v", ""), false)
	check("a stuff as a place", permitOf(3, "a", ""), false)
	check("none to be cleaned", cleanOf(3, "r", ""), false)
	check("one to be cleaned", cleanOf(3, "s", ""), true)
	check("none to move from", moveOf(3, "a", "r>1", "", ""), false)
	check("one to move from", moveOf(3, "a", "q>1", "", ""), true)
	check("none to move into", moveOf(3, "a", "q<1 r<1", "", ""), false)
	check("one to move into", moveOf(3, "a", "q<1", "", ""), true)
	check("none to move by", moveOf(3, "a", "q r", "", ""), false)
	check("known to be opened", moveOf(3, "a", "", "u v y", ""), true)
	check("none to be opened", moveOf(3, "a", "", "x", ""), false)
	check("the first to be opened is none", moveOf(3, "a", "", "t u", ""), false)
	check("the last to be opened is none", moveOf(3, "a", "", "u v z", ""), false)
	check("a place to be opened", moveOf(3, "a", "", "p", ""), false)
	check("known to be kept shut", moveOf(3, "a", "", "", "u v y"), true)
	check("none to be kept shut", moveOf(3, "a", "", "", "x"), false)
	check("the first to be kept shut is none", permitOf(3, "", "t u"), false)
	check("the last to be kept shut is none", cleanOf(3, "", "u v z"), false)
	check("a place to be kept shut", permitOf(3, "", "p"), false)
	check("one to be opened, none to be kept shut", moveOf(3, "a", "", "u", "x"), false)
	check("none to be opened, one to be kept shut", moveOf(3, "a", "", "x", "u"), false)
	check("one to be opened, one to be kept shut", moveOf(3, "a", "", "u", "y"), true)
}

// Promise 15, of what a book must be: no place is used by two.
func TestPlacesThatTwoUse(t *testing.T) {
	spots := []impl.ClaimSpot{spot("p", 0, 0, 0, "a"), spot("q", 9, 0, 9, "a"), spot("r", 9, 0, 9, "a")}
	for _, c := range []struct {
		one, other string
		want       bool
	}{
		{"p", "q", true}, {"q", "p", true}, {"p", "p", false}, {"q", "q", false}, {"p q", "r", true}, {"p q", "q", false}, {"p q", "p", false}, {"p", "p q", false}, {"q", "p q", false}, {"p r", "q", true}, {"p r", "q r", false},
		{"q>1", "r<1", true}, {"q>1", "q<1", false}, {"q>1", "q>1", false}, {"q", "q>1", false}, {"q<1", "q", false}, {"p q>1", "p r<1", false}, {"q>1 r<1", "p", true}, {"q>1 r<1", "p r", false},
	} {
		for _, stopped := range [][2]bool{{false, false}, {true, false}, {false, true}, {true, true}} {
			b := impl.ClaimBook{Spots: spots, Parts: granted(moveOf(1, "a", c.one, "", ""), moveOf(2, "a", c.other, "", "")), Seen: 2}
			b.Parts[0].Stopped, b.Parts[1].Stopped = stopped[0], stopped[1]
			checkClaims(t, c.one+" / "+c.other, b, c.want)
		}
	}
	for one := range 3 {
		for other := range 3 {
			pair := granted(stillOf(one, 3, "p"), stillOf(other, 7, "p"))
			checkClaims(t, "one place for two kinds", impl.ClaimBook{Spots: spots, Parts: pair, Seen: 9}, false)
			pair = granted(stillOf(one, 3, "p"), permitOf(5, "q", ""), stillOf(other, 7, "p"))
			checkClaims(t, "one place for two of three", impl.ClaimBook{Spots: spots, Parts: pair, Seen: 9}, false)
			checkClaims(t, "one of them alone", impl.ClaimBook{Spots: spots, Parts: pair[1:], Seen: 9}, true)
			checkClaims(t, "the other one alone", impl.ClaimBook{Spots: spots, Parts: pair[:2], Seen: 9}, true)
		}
	}
}

// stillOf is a want of each kind that uses places, and moves nothing out of them or into them.
func stillOf(kind int, number int, uses string) impl.ClaimWant {
	return []impl.ClaimWant{moveOf(number, "a", uses, "", ""), cleanOf(number, uses, ""), permitOf(number, uses, "")}[kind]
}

// Promise 15, of what a book must be: no valve is opened by two, and none is opened by one and kept shut by another.
func TestPartsThatCross(t *testing.T) {
	valves := strings.Fields("t u v w x y")
	for _, c := range []struct {
		one, other string
		want       bool
	}{
		{"v/", "v/", false}, {"v/", "/v", false}, {"/v", "v/", false}, {"/v", "/v", true}, {"v/", "w/", true}, {"v/", "/w", true}, {"/v", "w/", true}, {"v/w", "w/v", false}, {"v/w", "/v w", false}, {"/v w", "v/w", false},
		{"v/w", "x/w", true}, {"v/w", "w/", false}, {"w/", "v/w", false}, {"u v/", "v w/", false}, {"u v/", "/v", false}, {"u v/", "/u", false}, {"/u v", "v/", false}, {"/u v", "u/", false}, {"/u v", "w/u v", true},
		{"u v/w x", "t y/w x", true}, {"u v/w x", "t x/w", false}, {"u v/w x", "t/v w", false}, {"u v/w x", "t/w x y", true}, {"u/", "/t v w x y", true}, {"u/", "/t u v w x y", false},
	} {
		turns := func(number int, text string) impl.ClaimWant {
			opens, shuts, _ := strings.Cut(text, "/")
			return moveOf(number, "a", "", opens, shuts)
		}
		for _, stopped := range [][2]bool{{false, false}, {true, false}, {false, true}, {true, true}} {
			b := impl.ClaimBook{Valves: valves, Parts: granted(turns(1, c.one), turns(2, c.other)), Seen: 2}
			b.Parts[0].Stopped, b.Parts[1].Stopped = stopped[0], stopped[1]
			checkClaims(t, c.one+" and "+c.other, b, c.want)
			b.Spots, b.Seen = []impl.ClaimSpot{spot("p", 0, 0, 0, "")}, 3
			b.Parts = slices.Insert(b.Parts, 1, granted(permitOf(2, "p", ""))...)
			b.Parts[2].Want.Number = 3
			checkClaims(t, "one between "+c.one+" and "+c.other, b, c.want)
		}
	}
	for _, keeper := range []impl.ClaimWant{cleanOf(2, "", "v"), permitOf(2, "", "v")} {
		checkClaims(t, "another kind keeps shut what one opens", impl.ClaimBook{Valves: valves, Parts: granted(moveOf(1, "a", "", "v", ""), keeper), Seen: 3}, false)
		checkClaims(t, "one opens what another kind keeps shut", impl.ClaimBook{Valves: valves, Parts: granted(keeper, moveOf(3, "a", "", "v", "")), Seen: 3}, false)
		checkClaims(t, "one keeps shut what another kind keeps shut", impl.ClaimBook{Valves: valves, Parts: granted(keeper, moveOf(3, "a", "", "u", "v")), Seen: 3}, true)
	}
	// A place and a valve of one name are two things.
	spots := []impl.ClaimSpot{spot("v", 9, 0, 9, "a"), spot("w", 9, 0, 9, "a")}
	checkClaims(t, "one uses v, the other opens v", impl.ClaimBook{Spots: spots, Valves: valves, Parts: granted(moveOf(1, "a", "v>1", "w", ""), moveOf(2, "a", "w>1", "v", "")), Seen: 2}, true)
	checkClaims(t, "one uses v, the other keeps v shut", impl.ClaimBook{Spots: spots, Valves: valves, Parts: granted(moveOf(1, "a", "v>1", "", "w"), moveOf(2, "a", "w>1", "", "v")), Seen: 2}, true)
}

func TestEachTwoOfAllParts(t *testing.T) {
	full := fullClaims()
	for i := range full.Parts {
		for j := range full.Parts {
			if i == j {
				continue
			}
			b := copied(full)
			b.Parts[i].Want.Uses[0].Name = b.Parts[j].Want.Uses[0].Name
			checkClaims(t, "two use one place", b, false)
			b = copied(full)
			b.Parts[i].Want.Opens = []string{b.Parts[j].Want.Opens[0]}
			checkClaims(t, "two open one valve", b, false)
			b = copied(full)
			b.Parts[i].Want.Shuts = append([]string{b.Parts[j].Want.Opens[0]}, b.Parts[i].Want.Shuts...)
			checkClaims(t, "one keeps shut what another one opens", b, false)
			b.Parts[j].Want.Opens = nil
			checkClaims(t, "the other one does not open it", b, true)
		}
	}
}

func TestLeastAndAmountTogether(t *testing.T) {
	for _, c := range []struct {
		holds, least, most, amount int
		want                       bool
	}{
		{9, 0, 1, 1, true}, {9, 0, 0, 1, false}, {9, 1, 1, 1, false}, {9, 1, 2, 1, true}, {9, 2, 7, 5, true}, {9, 2, 7, 6, false}, {9, 3, 7, 5, false}, {9, 2, 6, 5, false}, {9, 2, 7, 4, true}, {9, 4, 9, 5, true}, {9, 4, 9, 6, false},
		{1000, 0, 1000, 1000, true}, {1000, 0, 999, 1000, false}, {1000, 1, 1000, 1000, false}, {1000, 1, 1000, 999, true}, {1000, 999, 1000, 1, true}, {1000, 1000, 1000, 1, false}, {5, 0, 5, 5, true}, {5, 0, 5, 6, false}, {0, 0, 0, 1, false},
	} {
		for _, role := range []int{impl.ClaimFrom, impl.ClaimTo} {
			w := moveOf(1, "a", "p", "", "")
			w.Uses[0].Role, w.Uses[0].Amount = role, c.amount
			b := impl.ClaimBook{Spots: []impl.ClaimSpot{spot("p", c.holds, c.least, c.most, "a")}, Parts: granted(w), Seen: 1}
			checkClaims(t, "least and amount", b, c.want)
			b.Parts[0].Stopped = true
			checkClaims(t, "least and amount, stopped", b, c.want)
			b.Spots = append(b.Spots, spot("q", 9, 0, 9, "a"))
			b.Parts[0].Want.Uses = append(b.Parts[0].Want.Uses, places("q>9")...)
			checkClaims(t, "least and amount of the first", b, c.want)
			b.Spots = []impl.ClaimSpot{spot("o", 9, 0, 9, "a"), b.Spots[0]}
			b.Parts[0].Want.Uses = append(places("o<9"), w.Uses...)
			checkClaims(t, "least and amount of the second", b, c.want)
			b.Parts = granted(moveOf(1, "a", "o<9", "", ""), w)
			b.Parts[1].Want.Number, b.Seen = 2, 2
			checkClaims(t, "least and amount of the second part's", b, c.want)
		}
	}
	// By a place nothing is moved out of it or into it: any Least and Most will do.
	for least := range 4 {
		for most := least; most < 4; most++ {
			b := impl.ClaimBook{Spots: []impl.ClaimSpot{spot("p", 3, least, most, "a")}, Seen: 1}
			for kind, want := range []bool{true, most == 0, true} {
				b.Parts = granted(stillOf(kind, 1, "p"))
				checkClaims(t, "by a place", b, want)
			}
		}
	}
}

func TestPlacesThatAreCleaned(t *testing.T) {
	for _, c := range []struct {
		least, most int
		want        bool
	}{{0, 0, true}, {0, 1, false}, {1, 1, false}, {0, 9, false}, {9, 9, false}} {
		for _, may := range []string{"", "a", "a b c"} {
			for at := range 3 {
				spots := []impl.ClaimSpot{spot("p", 9, 0, 0, ""), spot("q", 9, 0, 0, "x"), spot("r", 0, 0, 0, "y")}
				spots[at] = spot(spots[at].Name, 9, c.least, c.most, may)
				b := impl.ClaimBook{Spots: spots, Valves: []string{"v"}, Parts: granted(cleanOf(1, "p q r", "v")), Seen: 1}
				checkClaims(t, "one of three is cleaned", b, c.want)
				b.Parts[0].Stopped = true
				checkClaims(t, "one of three is cleaned, stopped", b, c.want)
				b.Parts = granted(permitOf(1, "p q r", "v"))
				checkClaims(t, "a permit asks for nothing more", b, true)
				b.Parts = granted(cleanOf(1, "", "v"))
				checkClaims(t, "none is cleaned", b, true)
			}
		}
	}
}

func TestWhatMayBeLeftWhereItIsMoved(t *testing.T) {
	for _, c := range []struct {
		may, stuffs  string
		from, to, by bool
	}{
		{"a", "a", true, true, true}, {"a b", "a b", true, true, true}, {"a b c", "a b c", true, true, true},
		{"a b", "a", false, true, false}, {"a b", "b", false, true, false}, {"a b c", "b", false, true, false}, {"a b c", "a c", false, true, false},
		{"a", "a b", true, false, false}, {"b", "a b", true, false, false}, {"", "a", true, false, false}, {"", "a b", true, false, false}, {"b", "a b c", true, false, false}, {"a c", "a b c", true, false, false},
		{"a", "b", false, false, false}, {"b", "a", false, false, false}, {"a b", "a c", false, false, false}, {"a b", "b c", false, false, false}, {"a c", "b", false, false, false}, {"a b c", "b c d", false, false, false}, {"a", "aa", false, false, false},
	} {
		for role, want := range map[int]bool{impl.ClaimFrom: c.from, impl.ClaimTo: c.to, impl.ClaimBy: c.by} {
			use := impl.ClaimUse{Name: "p", Role: role, Amount: choose(role == impl.ClaimBy, 0, 1)}
			w := impl.ClaimWant{Number: 1, Kind: impl.ClaimMove, Stuffs: strings.Fields(c.stuffs), Uses: []impl.ClaimUse{use}}
			b := impl.ClaimBook{Spots: []impl.ClaimSpot{spot("o", 9, 0, 9, c.stuffs), spot("p", 9, 0, 9, c.may), spot("q", 9, 0, 9, c.stuffs)}, Parts: granted(w), Seen: 1}
			what := c.stuffs + " where " + c.may + " may be left, role " + strconv.Itoa(role)
			checkClaims(t, what, b, want)
			b.Parts[0].Stopped = true
			checkClaims(t, what+", stopped", b, want)
			b.Parts[0].Want.Uses = []impl.ClaimUse{{Name: "o", Role: impl.ClaimBy}, use, {Name: "q", Role: impl.ClaimBy}}
			checkClaims(t, what+", one of three", b, want)
			b.Parts = granted(permitOf(1, "p", ""))
			checkClaims(t, what+", with a permit", b, true)
			b.Spots[1].Most = 0
			b.Parts = granted(cleanOf(1, "p", ""))
			checkClaims(t, what+", cleaned", b, true)
		}
	}
}

// A stuff that is moved out of a place need not be one that may be left there, and so foes may be told of together.
func TestFoesAmongStuffsThatAreMoved(t *testing.T) {
	foes := claimFoes("a/b")
	spots := []impl.ClaimSpot{spot("p", 9, 0, 9, "a"), spot("q", 9, 0, 9, "b"), spot("r", 9, 0, 9, "")}
	for uses, want := range map[string]bool{"p>1": true, "q>1": true, "r>1": true, "p>1 q>1 r>1": true, "p<1": false, "p": false, "r<1": false, "r": false, "p>1 q": false} {
		checkClaims(t, uses, impl.ClaimBook{Foes: foes, Spots: spots, Parts: granted(moveOf(1, "a b", uses, "", "")), Seen: 1}, want)
	}
	checkClaims(t, "foes at no place", impl.ClaimBook{Foes: foes, Valves: []string{"v"}, Parts: granted(moveOf(1, "a b", "", "v", "")), Seen: 1}, true)
}

// standsByDefinition reads a second time what is asked of a place that a part uses.
func standsByDefinition(w impl.ClaimWant, u impl.ClaimUse, s impl.ClaimSpot) bool {
	more, less := false, false
	for _, stuff := range s.May {
		more = more || !slices.Contains(w.Stuffs, stuff)
	}
	for _, stuff := range w.Stuffs {
		less = less || !slices.Contains(s.May, stuff)
	}
	if u.Amount > s.Most-s.Least || w.Kind == 2 && s.Most != 0 {
		return false
	}
	return w.Kind != 1 || !(u.Role != 2 && more) && !(u.Role != 1 && less)
}

// partsByDefinition reads a second time what is asked of all parts together, counting who has what.
func partsByDefinition(b impl.ClaimBook) bool {
	spots, used, opened, shut := map[string]impl.ClaimSpot{}, map[string]int{}, map[string]int{}, map[string]int{}
	for _, s := range b.Spots {
		spots[s.Name] = s
	}
	last := 0
	for _, p := range b.Parts {
		w := p.Want
		if w.Number <= last || w.Number > b.Seen || !wantByDefinition(w) {
			return false
		}
		last = w.Number
		for _, u := range w.Uses {
			s, is := spots[u.Name]
			if used[u.Name]++; !is || used[u.Name] > 1 || !standsByDefinition(w, u, s) {
				return false
			}
		}
		for _, v := range w.Opens {
			opened[v]++
		}
		for _, v := range w.Shuts {
			shut[v]++
			opened[v] += 0
		}
	}
	for v, by := range opened {
		if by > 1 || by == 1 && shut[v] > 0 || !slices.Contains(b.Valves, v) {
			return false
		}
	}
	return true
}

// claimsByDefinition reads the chapter a second time.
func claimsByDefinition(b impl.ClaimBook) bool {
	var pairs, names []string
	for _, f := range b.Foes {
		if !nameByDefinition(f.A) || !nameByDefinition(f.B) || f.A >= f.B {
			return false
		}
		// No byte of a name is as small as this one, so that these texts are ordered by A and then by B.
		pairs = append(pairs, f.A+"\x00"+f.B)
	}
	if len(pairs) > 12 || !slices.IsSorted(pairs) || len(slices.Compact(slices.Clone(pairs))) < len(pairs) {
		return false
	}
	for _, s := range b.Spots {
		names = append(names, s.Name)
		if s.Cap < 0 || s.Cap > 1000 || s.Least < 0 || s.Least > s.Most || s.Most > s.Cap || !ascendingNames(s.May, 8) {
			return false
		}
		for _, f := range b.Foes {
			if slices.Contains(s.May, f.A) && slices.Contains(s.May, f.B) {
				return false
			}
		}
	}
	return ascendingNames(names, 8) && ascendingNames(b.Valves, 12) && b.Seen >= 0 && b.Seen <= 1000000 && len(b.Parts) <= 6 && partsByDefinition(b)
}

func TestAllShortListsOfClaimFoes(t *testing.T) {
	var pairs []impl.ClaimFoe
	for _, a := range []string{"a", "b", "c", "C", ""} {
		for _, b := range []string{"a", "b", "c", "C", ""} {
			pairs = append(pairs, impl.ClaimFoe{A: a, B: b})
		}
	}
	eachOf(pairs, 3, func(list []impl.ClaimFoe) {
		b := impl.ClaimBook{Foes: list}
		checkClaims(t, "foes", b, claimsByDefinition(b))
	})
}

func TestAllShortListsOfSpots(t *testing.T) {
	eachOf([]string{"a", "b", "c", "d", "D"}, 3, func(may []string) {
		b := impl.ClaimBook{Foes: claimFoes("a/c", "b/c"), Spots: []impl.ClaimSpot{{Name: "p", May: may}}}
		checkClaims(t, "may", b, claimsByDefinition(b))
	})
	var some []impl.ClaimSpot
	for _, name := range []string{"p", "q", "P"} {
		for _, holds := range []int{-1, 0, 1, 2} {
			for least := -1; least <= 2; least++ {
				for most := -1; most <= 3; most++ {
					some = append(some, spot(name, holds, least, most, ""))
				}
			}
		}
	}
	eachOf(some, 2, func(list []impl.ClaimSpot) {
		b := impl.ClaimBook{Spots: list}
		checkClaims(t, "spots", b, claimsByDefinition(b))
	})
}

// shortWants is all wants of two places and two valves, by which nothing, or 1, is moved.
func shortWants() []impl.ClaimWant {
	var all []impl.ClaimWant
	for _, uses := range []string{"", "p", "q", "p q", "p>1", "p<1", "q>1", "q<1", "p>1 q<1", "p<1 q", "r"} {
		for _, turns := range []string{"/", "u/", "v/", "u v/", "/u", "/v", "/u v", "u/v", "v/u", "w/", "/w"} {
			opens, shuts, _ := strings.Cut(turns, "/")
			for kind := 1; kind <= 3; kind++ {
				w := moveOf(1, choose(kind == impl.ClaimMove, "a", ""), uses, opens, shuts)
				w.Kind = kind
				all = append(all, w)
			}
		}
	}
	return all
}

func TestAllPairsOfShortWants(t *testing.T) {
	books := []impl.ClaimBook{
		{Spots: []impl.ClaimSpot{spot("p", 5, 0, 5, "a"), spot("q", 5, 2, 3, "a")}, Valves: []string{"u", "v"}, Seen: 2},
		{Spots: []impl.ClaimSpot{spot("p", 5, 0, 0, "a"), spot("q", 5, 1, 1, "")}, Valves: []string{"u", "v"}, Seen: 2},
		{Spots: []impl.ClaimSpot{spot("p", 0, 0, 0, ""), spot("q", 5, 1, 4, "a b")}, Valves: []string{"u", "v"}, Seen: 2},
	}
	ok, not := 0, 0
	eachOf(shortWants(), 2, func(list []impl.ClaimWant) {
		for _, b := range books {
			b.Parts = granted(list...)
			for i := range b.Parts {
				b.Parts[i].Want.Number = 1 + i
				b.Parts[i].Stopped = (len(list)+i)%2 == 0
			}
			want := claimsByDefinition(b)
			checkClaims(t, "wants", b, want)
			if want {
				ok++
			} else {
				not++
			}
		}
	})
	if ok < 1000 || not < 1000 {
		t.Errorf("%d are ok, %d not", ok, not)
	}
}

func TestAllPlacesOfOnePart(t *testing.T) {
	stuffs := []string{"a", "b", "c"}
	for kind := 1; kind <= 3; kind++ {
		for role := 1; role <= 3; role++ {
			for amount := range 4 {
				for bits := range 64 {
					for least := range 4 {
						for most := range 4 {
							w := impl.ClaimWant{Number: 1, Kind: kind, Stuffs: pick(stuffs, bits%8), Uses: []impl.ClaimUse{{Name: "p", Role: role, Amount: amount}}}
							b := impl.ClaimBook{Foes: claimFoes("a/c"), Spots: []impl.ClaimSpot{{Name: "p", Cap: 3, Least: least, Most: most, May: pick(stuffs, bits/8)}}, Parts: granted(w), Seen: 1}
							checkClaims(t, "a place", b, claimsByDefinition(b))
						}
					}
				}
			}
		}
	}
}

func TestClaimBooksOfWhichOneThingIsChanged(t *testing.T) {
	for what, from := range someClaims() {
		ok, not := 0, 0
		eachWithOneChange(from, textsOfAll(from), func(b impl.ClaimBook) {
			want := claimsByDefinition(b)
			checkClaims(t, what, b, want)
			if want {
				ok++
			} else {
				not++
			}
		})
		if ok == 0 || not == 0 {
			t.Errorf("%s: %d are ok, %d not", what, ok, not)
		}
	}
}

func TestClaimBooksOfWhichTwoThingsAreChanged(t *testing.T) {
	for _, from := range []impl.ClaimBook{
		{Foes: claimFoes("a/b"), Spots: []impl.ClaimSpot{spot("p", 5, 1, 3, "a"), spot("q", 5, 1, 3, "a")}, Valves: []string{"u", "v"}, Parts: granted(moveOf(1, "a", "p>2", "u", "v"), moveOf(3, "a", "q<2", "", "v")), Seen: 3},
		{Foes: claimFoes("a/b"), Spots: []impl.ClaimSpot{spot("p", 5, 0, 0, "a c")}, Valves: []string{"u"}, Parts: granted(cleanOf(1, "p", "u"), permitOf(2, "", "u")), Seen: 2},
	} {
		texts := slices.DeleteFunc(textsOfAll(from), func(text string) bool { return len(text) > 1 })
		eachWithOneChange(from, texts, func(b impl.ClaimBook) {
			eachWithOneChange(b, texts, func(b impl.ClaimBook) {
				checkClaims(t, "two things", b, claimsByDefinition(b))
			})
		})
	}
}

// someClaimWant is a want of few places, valves and stuffs.
func someClaimWant(dice *rand.Rand, number int) impl.ClaimWant {
	few := func(names ...string) []string { return pick(names, dice.Intn(1<<len(names))&dice.Intn(1<<len(names))) }
	w := impl.ClaimWant{Number: number, Kind: 1 + dice.Intn(3), Shuts: few("u", "v", "w", "x")}
	if w.Kind == impl.ClaimMove {
		w.Stuffs = append([]string{"a"}, pick([]string{"b", "c", "d"}, dice.Intn(8))...)
		w.Opens = slices.DeleteFunc(few("u", "v", "w", "x"), func(v string) bool { return slices.Contains(w.Shuts, v) })
	}
	for _, name := range few("p", "q", "r", "s") {
		u := impl.ClaimUse{Name: name, Role: impl.ClaimBy}
		if w.Kind == impl.ClaimMove && dice.Intn(4) > 0 {
			u.Role, u.Amount = 1+dice.Intn(2), 1+dice.Intn(3)
		}
		w.Uses = append(w.Uses, u)
	}
	return w
}

// someClaimBook is a book in which all is of few names and numbers, so that much of it meets.
func someClaimBook(dice *rand.Rand) impl.ClaimBook {
	few := func(names ...string) []string { return pick(names, dice.Intn(1<<len(names))&dice.Intn(1<<len(names))) }
	b := impl.ClaimBook{Foes: pick(claimFoes("a/b", "a/c", "c/d"), dice.Intn(8)), Valves: []string{"u", "v", "w", "x"}, Seen: 3 + dice.Intn(9)}
	for _, name := range []string{"p", "q", "r", "s"} {
		least := dice.Intn(4)
		b.Spots = append(b.Spots, impl.ClaimSpot{Name: name, Cap: 9, Least: least, Most: choose(dice.Intn(3) == 0, 0, least+dice.Intn(5)), May: few("a", "b", "c", "d")})
		if last := &b.Spots[len(b.Spots)-1]; last.Most == 0 {
			last.Least = 0
		}
	}
	for i := range dice.Intn(4) {
		w := someClaimWant(dice, 1+3*i)
		b.Parts = append(b.Parts, impl.ClaimPart{Want: w, Stopped: dice.Intn(2) == 0})
	}
	return b
}

func TestManyClaimBooks(t *testing.T) {
	dice := rand.New(rand.NewSource(8))
	ok := map[int]int{}
	for range 200000 {
		b := someClaimBook(dice)
		want := claimsByDefinition(b)
		checkClaims(t, "some book", b, want)
		if want {
			ok[len(b.Parts)]++
		}
	}
	for many := range 4 {
		if ok[many] < 20 {
			t.Errorf("%d books of %d parts are ok", ok[many], many)
		}
	}
}

// checkOnceAndNeverMet is promises 15 and 16 of one book.
func checkOnceAndNeverMet(t *testing.T, b impl.ClaimBook) {
	t.Helper()
	for i, p := range b.Parts {
		for j, q := range b.Parts {
			for _, u := range p.Want.Uses {
				if i != j && slices.ContainsFunc(q.Want.Uses, func(x impl.ClaimUse) bool { return x.Name == u.Name }) {
					t.Errorf("%s is used by two: %+v", u.Name, b)
				}
			}
			for _, v := range p.Want.Opens {
				if i != j && (slices.Contains(q.Want.Opens, v) || slices.Contains(q.Want.Shuts, v)) {
					t.Errorf("%s is opened by one, and by another one, too, or kept shut: %+v", v, b)
				}
			}
		}
	}
	for _, s := range b.Spots {
		for _, f := range b.Foes {
			if slices.Contains(s.May, f.A) && slices.Contains(s.May, f.B) {
				t.Errorf("foes may be left in %s: %+v", s.Name, b)
			}
		}
	}
}

// Promises 15 and 16, of all books that are ok.
func TestNothingIsClaimedTwiceAndNoFoesMayBeLeft(t *testing.T) {
	check := func(b impl.ClaimBook) {
		t.Helper()
		if impl.ClaimBookOk(b) {
			checkOnceAndNeverMet(t, b)
		}
	}
	dice := rand.New(rand.NewSource(15))
	for range 50000 {
		check(someClaimBook(dice))
	}
	for _, from := range someClaims() {
		eachWithOneChange(from, textsOfAll(from), check)
	}
}

// spoiltClaims is books that are not ok, each in a way of its own.
func spoiltClaims() []impl.ClaimBook {
	var all []impl.ClaimBook
	for _, f := range []func(b *impl.ClaimBook){
		func(b *impl.ClaimBook) { b.Foes = append(b.Foes, b.Foes[0]) },
		func(b *impl.ClaimBook) { b.Foes[1].A = "malt" },
		func(b *impl.ClaimBook) { b.Foes[2].B = "Wort" },
		func(b *impl.ClaimBook) { b.Spots[0].Cap = -1 },
		func(b *impl.ClaimBook) { b.Spots[1].Cap = 19 },
		func(b *impl.ClaimBook) { b.Spots[1].Least = 11 },
		func(b *impl.ClaimBook) { b.Spots[2].Name = "keg" },
		func(b *impl.ClaimBook) { b.Spots[2].May = []string{"ale", "lye"} },
		func(b *impl.ClaimBook) { b.Spots[2].May = []string{"lye", "lye"} },
		func(b *impl.ClaimBook) { b.Spots[3].May = []string{"ale", "malt"} },
		func(b *impl.ClaimBook) { b.Spots[4].Most = 1 },
		func(b *impl.ClaimBook) { b.Valves = b.Valves[:3] },
		func(b *impl.ClaimBook) { b.Valves[4] = "v4" },
		func(b *impl.ClaimBook) { b.Seen = 7 },
		func(b *impl.ClaimBook) { b.Seen = impl.ClaimMaxNumber + 1 },
		func(b *impl.ClaimBook) { b.Parts[1].Want.Number = 3 },
		func(b *impl.ClaimBook) { b.Parts[1].Want.Kind = impl.ClaimMove },
		func(b *impl.ClaimBook) { b.Parts[2].Want.Uses[0].Name = "keg" },
		func(b *impl.ClaimBook) { b.Parts[2].Want.Uses[0].Name = "none" },
		func(b *impl.ClaimBook) { b.Parts[2].Want.Shuts[0] = "v2" },
		func(b *impl.ClaimBook) { b.Parts[0].Want.Opens[1] = "v4" },
		func(b *impl.ClaimBook) { b.Parts[0].Want.Uses[1].Amount = 16 },
	} {
		b := smallClaims()
		f(&b)
		all = append(all, b)
	}
	return all
}

func TestClaimBooksAreNotWrittenInto(t *testing.T) {
	for i, b := range spoiltClaims() {
		checkClaims(t, "spoilt "+strconv.Itoa(i), b, false)
	}
	all := spoiltClaims()
	for _, b := range someClaims() {
		all = append(all, b)
	}
	for _, from := range all {
		b := withRoom(from)
		want := withWhatIsBehind(b)
		first := impl.ClaimBookOk(b)
		checkClaims(t, "a second time", b, first)
		checkClaims(t, "without room", from, first)
		if !reflect.DeepEqual(withWhatIsBehind(b), want) {
			t.Errorf("the book became %+v", withWhatIsBehind(b))
		}
	}
}

func TestClaimBookOfVeryLongLists(t *testing.T) {
	long := 100000
	var names []string
	var spots []impl.ClaimSpot
	var parts []impl.ClaimPart
	for i := range long {
		names = append(names, strconv.Itoa(1000000+i))
		spots = append(spots, impl.ClaimSpot{Name: names[i]})
		parts = append(parts, impl.ClaimPart{Want: permitOf(1+i, names[i], "")})
	}
	for what, b := range map[string]impl.ClaimBook{
		"foes":                   {Foes: make([]impl.ClaimFoe, long)},
		"one pair of foes":       {Foes: slices.Repeat(claimFoes("a/b"), long), Spots: spots},
		"spots":                  {Spots: spots},
		"spots without names":    {Spots: make([]impl.ClaimSpot, long)},
		"valves":                 {Valves: names},
		"may":                    {Spots: []impl.ClaimSpot{{Name: "p", May: names}}},
		"parts":                  {Spots: spots[:8], Parts: parts, Seen: impl.ClaimMaxNumber},
		"parts of nothing":       {Parts: make([]impl.ClaimPart, long), Seen: 9},
		"valves that one opens":  {Valves: []string{"v"}, Parts: granted(impl.ClaimWant{Number: 1, Kind: impl.ClaimMove, Stuffs: []string{"a"}, Opens: names}), Seen: 9},
		"places that one uses":   {Spots: spots[:8], Parts: granted(permitOf(1, strings.Join(names, " "), "")), Seen: 9},
		"stuffs that one moves":  {Valves: []string{"v"}, Parts: granted(impl.ClaimWant{Number: 1, Kind: impl.ClaimMove, Stuffs: names, Opens: []string{"v"}}), Seen: 9},
		"all":                    {Foes: make([]impl.ClaimFoe, long), Spots: spots, Valves: names, Parts: parts, Seen: long},
		"a name that is so long": {Valves: []string{strings.Repeat("v", 1<<20)}},
	} {
		checkClaims(t, what, b, false)
	}
}

// What one call was given must not be seen in the next one, nor in one beside it.
func TestClaimBooksKeepNothing(t *testing.T) {
	small, full, wrong := smallClaims(), fullClaims(), spoiltClaims()
	friends := smallClaims()
	friends.Spots[2].May = []string{"ale", "lye"}
	friends.Foes = nil
	var callers sync.WaitGroup
	for range 8 {
		callers.Go(func() {
			for i := range 50 {
				checkClaims(t, "small", small, true)
				checkClaims(t, "wrong", wrong[i%len(wrong)], false)
				checkClaims(t, "friends", friends, true)
				checkClaims(t, "full", full, true)
				checkClaims(t, "nothing", impl.ClaimBook{}, true)
				checkClaims(t, "wrong ones", wrong[(i+7)%len(wrong)], false)
			}
		})
	}
	callers.Wait()
}
