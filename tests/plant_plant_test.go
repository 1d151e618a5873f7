package tests

import (
	"math"
	"reflect"
	"slices"
	"strconv"
	"strings"
	"testing"

	"loop.example/malthouse/impl"
)

// fullPlant has as much of everything as may be, and no list has room behind its end.
func fullPlant() impl.Plant {
	p := impl.Plant{Stuffs: letters(impl.PlantMaxStuffs)}
	for i, a := range p.Stuffs {
		for _, b := range p.Stuffs[i+1:] {
			p.Foes = append(p.Foes, impl.PlantFoe{A: a, B: b})
		}
	}
	p.Foes = slices.Clip(p.Foes[:impl.PlantMaxFoes])
	for i := range impl.PlantMaxPlaces {
		p.Places = append(p.Places, impl.PlantPlace{Name: "p" + strconv.Itoa(10+i), Cap: i % 3 * impl.PlantMaxCap / 2, Station: "west"})
	}
	for i := range impl.PlantMaxValves {
		a := i % (impl.PlantMaxPlaces - 1)
		p.Valves = append(p.Valves, impl.PlantValve{Name: "v" + strconv.Itoa(10+i), A: p.Places[a].Name, B: p.Places[a+1].Name, Station: "east"})
	}
	p.Places, p.Valves = slices.Clip(p.Places), slices.Clip(p.Valves)
	return p
}

// smallPlant leaves room for more in each list.
func smallPlant() impl.Plant {
	return impl.Plant{
		Stuffs: []string{"ale", "lye", "malt", "water"},
		Foes:   []impl.PlantFoe{{A: "ale", B: "lye"}, {A: "ale", B: "malt"}, {A: "lye", B: "malt"}},
		Places: []impl.PlantPlace{{Name: "j", Station: "west"}, {Name: "keg", Cap: 30, Station: "east"}, {Name: "tun", Cap: 20, Station: "west"}},
		Valves: []impl.PlantValve{{Name: "a", A: "j", B: "keg", Station: "west"}, {Name: "b", A: "j", B: "tun", Station: "east"}, {Name: "c", A: "keg", B: "tun", Station: "east"}},
	}
}

// someValid is plants that are valid, each in a way of its own.
func someValid() map[string]impl.Plant {
	return map[string]impl.Plant{
		"empty":              {},
		"empty lists":        {Stuffs: []string{}, Foes: []impl.PlantFoe{}, Places: []impl.PlantPlace{}, Valves: []impl.PlantValve{}},
		"small":              smallPlant(),
		"full":               fullPlant(),
		"stuffs alone":       {Stuffs: []string{"ale"}},
		"places alone":       {Places: smallPlant().Places},
		"no stuffs":          {Places: smallPlant().Places, Valves: smallPlant().Valves},
		"no places":          {Stuffs: smallPlant().Stuffs, Foes: smallPlant().Foes},
		"one name for all":   {Stuffs: []string{"x"}, Places: []impl.PlantPlace{{Name: "x", Station: "x"}, {Name: "y", Station: "x"}}, Valves: []impl.PlantValve{{Name: "x", A: "x", B: "y", Station: "x"}}},
		"two valves beside":  {Places: smallPlant().Places, Valves: []impl.PlantValve{{Name: "a", A: "j", B: "keg", Station: "w"}, {Name: "b", A: "j", B: "keg", Station: "w"}}},
		"valve ends go back": {Places: smallPlant().Places, Valves: []impl.PlantValve{{Name: "a", A: "keg", B: "tun", Station: "w"}, {Name: "b", A: "j", B: "keg", Station: "w"}}},
		"foes go back by B":  {Stuffs: letters(4), Foes: []impl.PlantFoe{{A: "a", B: "d"}, {A: "b", B: "c"}}},
	}
}

func checkValid(t *testing.T, what string, p impl.Plant, want bool) {
	t.Helper()
	if got := impl.PlantValid(p); got != want {
		t.Errorf("%s: PlantValid = %v; want %v: %+v", what, got, want, p)
	}
}

func TestValidPlants(t *testing.T) {
	for what, p := range someValid() {
		checkValid(t, what, p, true)
	}
}

func TestPlantOfOneTooMany(t *testing.T) {
	p := fullPlant()
	p.Foes, p.Stuffs = nil, append(p.Stuffs, "z")
	checkValid(t, "one stuff too many", p, false)
	p.Stuffs = p.Stuffs[1:]
	checkValid(t, "that one, without the first", p, true)
	p = fullPlant()
	p.Foes = append(p.Foes, impl.PlantFoe{A: "g", B: "h"})
	checkValid(t, "one pair of foes too many", p, false)
	p.Foes = p.Foes[1:]
	checkValid(t, "that one, without the first", p, true)
	p = fullPlant()
	p.Valves, p.Places = nil, append(p.Places, impl.PlantPlace{Name: "z", Station: "west"})
	checkValid(t, "one place too many", p, false)
	p.Places = p.Places[1:]
	checkValid(t, "that one, without the first", p, true)
	p = fullPlant()
	p.Valves = append(p.Valves, impl.PlantValve{Name: "z", A: "p10", B: "p11", Station: "east"})
	checkValid(t, "one valve too many", p, false)
	p.Valves = p.Valves[1:]
	checkValid(t, "that one, without the first", p, true)
}

// swapped is all that comes of a list when two neighbours change places, or one becomes the other.
func swapped[T any](list []T) [][]T {
	var all [][]T
	for i := 1; i < len(list); i++ {
		turned, same := slices.Clone(list), slices.Clone(list)
		turned[i-1], turned[i] = list[i], list[i-1]
		same[i] = list[i-1]
		all = append(all, turned, same)
	}
	return all
}

func TestPlantOutOfOrder(t *testing.T) {
	for what, from := range map[string]func() impl.Plant{"small": smallPlant, "full": fullPlant} {
		p := from()
		p.Foes = nil
		for _, p.Stuffs = range swapped(p.Stuffs) {
			checkValid(t, what+" stuffs", p, false)
		}
		p = from()
		for _, p.Foes = range swapped(p.Foes) {
			checkValid(t, what+" foes", p, false)
		}
		p = from()
		p.Valves = nil
		for _, p.Places = range swapped(p.Places) {
			checkValid(t, what+" places", p, false)
		}
		p = from()
		for _, p.Valves = range swapped(p.Valves) {
			checkValid(t, what+" valves", p, false)
		}
	}
}

func TestPlantOfOneNameTwice(t *testing.T) {
	p := smallPlant()
	p.Places[1].Name = "j"
	p.Valves = nil
	checkValid(t, "places that differ but in Name", p, false)
	p = smallPlant()
	p.Valves[1].Name = "a"
	checkValid(t, "valves that differ but in Name", p, false)
}

func TestOrderOfNames(t *testing.T) {
	names := []string{"-", "--", "0", "9", "a", "a-", "a0", "aa"}
	for i, a := range names {
		for j, b := range names {
			checkValid(t, "stuffs "+a+" "+b, impl.Plant{Stuffs: []string{a, b}}, i < j)
			places := []impl.PlantPlace{{Name: a, Station: "w"}, {Name: b, Station: "w"}}
			checkValid(t, "places "+a+" "+b, impl.Plant{Places: places}, i < j)
			valves := []impl.PlantValve{{Name: a, A: "j", B: "keg", Station: "w"}, {Name: b, A: "j", B: "keg", Station: "w"}}
			checkValid(t, "valves "+a+" "+b, impl.Plant{Places: smallPlant().Places, Valves: valves}, i < j)
			checkValid(t, "foes "+a+" "+b, impl.Plant{Stuffs: names, Foes: []impl.PlantFoe{{A: a, B: b}}}, i < j)
			ends := []impl.PlantPlace{{Name: a, Station: "w"}, {Name: b, Station: "w"}}
			valve := []impl.PlantValve{{Name: "v", A: a, B: b, Station: "w"}}
			if i > j {
				slices.Reverse(ends)
			} else if i == j {
				ends = ends[:1]
			}
			checkValid(t, "ends "+a+" "+b, impl.Plant{Places: ends, Valves: valve}, i < j)
		}
	}
}

// named is plants in which a text stands where a name is asked for, and nothing else is wrong.
func named(text string) map[string]impl.Plant {
	valve := func(v impl.PlantValve) impl.Plant {
		return impl.Plant{Places: smallPlant().Places, Valves: []impl.PlantValve{v}}
	}
	return map[string]impl.Plant{
		"stuff":         {Stuffs: []string{text}},
		"place":         {Places: []impl.PlantPlace{{Name: text, Cap: 1, Station: "w"}}},
		"place station": {Places: []impl.PlantPlace{{Name: "a", Cap: 1, Station: text}}},
		"valve":         valve(impl.PlantValve{Name: text, A: "j", B: "tun", Station: "w"}),
		"valve station": valve(impl.PlantValve{Name: "v", A: "j", B: "tun", Station: text}),
	}
}

// eachText tells texts that are names, and texts that just are none.
func eachText(tell func(text string, isName bool)) {
	for _, text := range []string{"a", "0", "-", "a-z", "--------", "abcdefgh", "01234567", "zzzzzzzz", "good"} {
		tell(text, true)
	}
	for _, text := range []string{"", "abcdefghi", "---------", "Keg", "a b", " a", "a ", "a_b", "a\n", "é", "éééé", "a\u0430", "\ufffd", strings.Repeat("a", 10000)} {
		tell(text, false)
	}
	for c := range 256 {
		isName := c >= 'a' && c <= 'z' || c >= '0' && c <= '9' || c == '-'
		b := string([]byte{byte(c)})
		for _, text := range []string{b, "a" + b, b + "a", "aaaaaaa" + b} {
			tell(text, isName)
		}
		tell("aaaaaaaa"+b, false)
	}
}

func TestNames(t *testing.T) {
	eachText(func(text string, isName bool) {
		for what, p := range named(text) {
			checkValid(t, what+" "+strconv.Quote(text), p, isName)
		}
	})
}

func TestCaps(t *testing.T) {
	for most, want := range map[int]bool{-1: false, 0: true, 1: true, 999: true, impl.PlantMaxCap: true, impl.PlantMaxCap + 1: false, math.MinInt: false, math.MaxInt: false} {
		for at := range 3 {
			p := smallPlant()
			p.Places[at].Cap = most
			checkValid(t, "cap "+strconv.Itoa(most), p, want)
		}
	}
}

func TestFoesOfNoStuff(t *testing.T) {
	for _, f := range []impl.PlantFoe{{A: "ale", B: "ale"}, {A: "lye", B: "ale"}, {A: "ale", B: "none"}, {A: "beer", B: "lye"}, {A: "a", B: "b"}, {A: "", B: "ale"}, {A: "ale", B: ""}, {}, {A: "j", B: "keg"}, {A: "ale", B: "tun"}, {A: "Ale", B: "lye"}, {A: "ale", B: "ly"}} {
		p := smallPlant()
		p.Foes = []impl.PlantFoe{f}
		checkValid(t, "foe", p, false)
	}
	p := smallPlant()
	p.Stuffs = nil
	checkValid(t, "foes without stuffs", p, false)
}

func TestValvesOfNoPlace(t *testing.T) {
	for _, v := range []impl.PlantValve{{A: "j", B: "j"}, {A: "keg", B: "j"}, {A: "tun", B: "keg"}, {A: "j", B: "none"}, {A: "a", B: "tun"}, {A: "a", B: "b"}, {A: "", B: "j"}, {A: "j", B: ""}, {}, {A: "j", B: "west"}, {A: "east", B: "keg"}, {A: "ale", B: "tun"}, {A: "j", B: "kegs"}} {
		p := smallPlant()
		v.Name, v.Station = "v", "west"
		p.Valves = []impl.PlantValve{v}
		checkValid(t, "valve", p, false)
	}
	p := smallPlant()
	p.Places = nil
	checkValid(t, "valves without places", p, false)
}

// spoilt is plants that are not valid, by each of their lists, all with foes that would be some.
func spoilt() []impl.Plant {
	var all []impl.Plant
	for _, f := range []func(p *impl.Plant){
		func(p *impl.Plant) { p.Stuffs = append(p.Stuffs, "Water") },
		func(p *impl.Plant) { p.Stuffs = p.Stuffs[:2] },
		func(p *impl.Plant) { p.Foes = append(p.Foes, p.Foes[0]) },
		func(p *impl.Plant) { p.Foes = append(p.Foes, impl.PlantFoe{A: "malt", B: "malt"}) },
		func(p *impl.Plant) { p.Foes = append(p.Foes, impl.PlantFoe{A: "malt", B: "none"}) },
		func(p *impl.Plant) { p.Places[0].Cap = -1 },
		func(p *impl.Plant) { p.Places[2].Station = "" },
		func(p *impl.Plant) { p.Valves[2].B = "none" },
		func(p *impl.Plant) { p.Valves[1].Name = "a" },
	} {
		p := smallPlant()
		f(&p)
		all = append(all, p)
	}
	return all
}

// Promise 3.
func TestFoesGoBothWays(t *testing.T) {
	texts := append(letters(10), "ale", "lye", "malt", "water", "beer", "j", "keg", "", "A", "\xff", strings.Repeat("a", 100))
	for what, p := range someValid() {
		for _, a := range texts {
			for _, b := range texts {
				want := slices.Contains(p.Foes, impl.PlantFoe{A: a, B: b}) || slices.Contains(p.Foes, impl.PlantFoe{A: b, B: a})
				if got := impl.PlantFoes(p, a, b); got != want {
					t.Errorf("%s: PlantFoes of %q and %q = %v", what, a, b, got)
				}
			}
			if impl.PlantFoes(p, a, a) {
				t.Errorf("%s: %q is its own foe", what, a)
			}
		}
	}
}

func TestFoesOfThePlant(t *testing.T) {
	p := smallPlant()
	for _, c := range []struct {
		a, b string
		want bool
	}{{"ale", "lye", true}, {"lye", "ale", true}, {"malt", "lye", true}, {"lye", "malt", true}, {"ale", "malt", true}, {"ale", "water", false}, {"water", "malt", false}, {"ale", "ale", false}, {"water", "water", false}, {"none", "ale", false}, {"ale", "none", false}, {"none", "none", false}, {"", "", false}, {"ale", "", false}} {
		if got := impl.PlantFoes(p, c.a, c.b); got != c.want {
			t.Errorf("PlantFoes of %q and %q = %v; want %v", c.a, c.b, got, c.want)
		}
	}
}

func TestFoesOfPlantsThatAreNotValid(t *testing.T) {
	for i, p := range spoilt() {
		checkValid(t, "spoilt "+strconv.Itoa(i), p, false)
		for _, f := range append(slices.Clone(p.Foes), impl.PlantFoe{A: "malt", B: "malt"}) {
			if impl.PlantFoes(p, f.A, f.B) || impl.PlantFoes(p, f.B, f.A) {
				t.Errorf("plant %d is not valid, and has the foes %v", i, f)
			}
		}
	}
}

// roomy is a list with room behind its end in which something stands.
func roomy[T any](list []T, behind T) []T {
	return append(slices.Clone(list), behind, behind)[:len(list)]
}

func roomyPlant(p impl.Plant) impl.Plant {
	return impl.Plant{
		Stuffs: roomy(p.Stuffs, "behind"),
		Foes:   roomy(p.Foes, impl.PlantFoe{A: "behind"}),
		Places: roomy(p.Places, impl.PlantPlace{Name: "behind"}),
		Valves: roomy(p.Valves, impl.PlantValve{Name: "behind"}),
	}
}

// toTheEnd is a plant with all that stands in the room behind its lists.
func toTheEnd(p impl.Plant) impl.Plant {
	return impl.Plant{Stuffs: p.Stuffs[:cap(p.Stuffs)], Foes: p.Foes[:cap(p.Foes)], Places: p.Places[:cap(p.Places)], Valves: p.Valves[:cap(p.Valves)]}
}

func cloned(p impl.Plant) impl.Plant {
	return impl.Plant{Stuffs: slices.Clone(p.Stuffs), Foes: slices.Clone(p.Foes), Places: slices.Clone(p.Places), Valves: slices.Clone(p.Valves)}
}

func TestPlantsAreNotWrittenInto(t *testing.T) {
	for _, from := range append(spoilt(), smallPlant(), fullPlant()) {
		p := roomyPlant(from)
		want := cloned(toTheEnd(p))
		first := impl.PlantValid(p)
		impl.PlantFoes(p, "ale", "lye")
		impl.PlantFoes(p, "lye", "ale")
		if again := impl.PlantValid(p); again != first {
			t.Errorf("PlantValid was %v and is %v", first, again)
		}
		if !reflect.DeepEqual(toTheEnd(p), want) {
			t.Errorf("the plant became %+v", toTheEnd(p))
		}
	}
}

func TestPlantOfVeryLongLists(t *testing.T) {
	long := 100000
	for what, p := range map[string]impl.Plant{
		"stuffs": {Stuffs: make([]string, long)},
		"foes":   {Stuffs: letters(8), Foes: make([]impl.PlantFoe, long)},
		"places": {Places: make([]impl.PlantPlace, long)},
		"valves": {Places: smallPlant().Places, Valves: make([]impl.PlantValve, long)},
	} {
		checkValid(t, what, p, false)
		if impl.PlantFoes(p, "a", "b") || impl.PlantFoes(p, "", "") {
			t.Errorf("%s: foes", what)
		}
	}
}
