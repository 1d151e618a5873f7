package tests

import (
	"fmt"
	"maps"
	"math"
	"math/rand"
	"reflect"
	"slices"
	"strconv"
	"strings"
	"sync"
	"testing"

	"loop.example/malthouse/impl"
)

// written is the plant of some lines.
func written(lines ...string) impl.Plant {
	p, fault := impl.PlantParse(strings.Join(lines, "\n"))
	if fault != (impl.PlantFault{}) {
		panic(fmt.Sprint(fault, lines))
	}
	return p
}

// house has stations of places and valves (east, west), of places alone (lone, mid), of valves alone (guard, turn), and one that lies off the way from the tun to the keg (far).
func house() impl.Plant {
	return written("stuff ale", "stuff lye", "stuff water", "foe ale lye", "foe water lye",
		"vessel tun 40 west", "joint j west", "joint k mid", "vessel keg 20 east", "vessel vat 30 far", "joint m far", "vessel barn 1000 lone",
		"valve a tun j west", "valve b j k turn", "valve c keg k east", "valve d j vat guard", "valve e keg vat guard", "valve f tun keg west", "valve g m vat far")
}

// alongHouse uses the tun and j of west, k of mid and the keg of east.
func alongHouse() impl.PlantRoute {
	return route("tun a j b k c keg")
}

// ask is what is asked of a station.
func ask(station string, w impl.ClaimWant) impl.CtlAsk {
	return impl.CtlAsk{Station: station, Want: w}
}

func sameAsks(a, b []impl.CtlAsk) bool {
	return reflect.DeepEqual(copied(a), copied(b))
}

func checkStations(t *testing.T, what string, p impl.Plant, want ...string) {
	t.Helper()
	if got := impl.CtlStations(p); !slices.Equal(got, want) {
		t.Errorf("%s: CtlStations = %q; want %q: %+v", what, got, want, p)
	}
}

func checkBookOf(t *testing.T, what string, p impl.Plant, station string, want impl.ClaimBook) {
	t.Helper()
	if got := impl.CtlBook(p, station); !sameClaims(got, want) {
		t.Errorf("%s: CtlBook of %q = %+v; want %+v: %+v", what, station, got, want, p)
	}
}

func checkRouteAsks(t *testing.T, what string, p impl.Plant, number int, r impl.PlantRoute, stuffs []string, amount int, want ...impl.CtlAsk) {
	t.Helper()
	if got := impl.CtlRouteAsks(p, number, r, stuffs, amount); !sameAsks(got, want) {
		t.Errorf("%s: CtlRouteAsks of %d, %v, %q and %d = %+v; want %+v: %+v", what, number, r, stuffs, amount, got, want, p)
	}
}

func checkPlaceAsks(t *testing.T, what string, p impl.Plant, number, kind int, places []string, want ...impl.CtlAsk) {
	t.Helper()
	if got := impl.CtlPlaceAsks(p, number, kind, places); !sameAsks(got, want) {
		t.Errorf("%s: CtlPlaceAsks of %d, %d and %q = %+v; want %+v: %+v", what, number, kind, places, got, want, p)
	}
}

func TestStationsOfPlants(t *testing.T) {
	checkStations(t, "all", house(), "east", "far", "guard", "lone", "mid", "turn", "west")
	checkStations(t, "small", smallPlant(), "east", "west")
	checkStations(t, "full", fullPlant(), "east", "west")
	checkStations(t, "nothing", impl.Plant{})
	checkStations(t, "no places", impl.Plant{Stuffs: []string{"ale", "lye"}, Foes: []impl.PlantFoe{{A: "ale", B: "lye"}}})
	checkStations(t, "of one place", written("joint j x"), "x")
	checkStations(t, "of places alone", written("joint c z", "joint d y", "vessel a 1 y", "vessel b 1 -"), "-", "y", "z")
	checkStations(t, "one of all", written("joint c z", "joint d z", "valve v c d z", "valve w c d z"), "z")
	checkStations(t, "of valves ahead, between and behind", written("joint a m", "joint b p", "valve z a b a", "valve y a b n", "valve x a b z"), "a", "m", "n", "p", "z")
	checkStations(t, "called as a place, a valve, a stuff", written("stuff s", "joint a v", "joint b a", "valve v a b s"), "a", "s", "v")
	checkStations(t, "one begins a longer one", written("joint a bb", "joint b b-", "joint c b", "joint d b0"), "b", "b-", "b0", "bb")
}

// manyStations has a station of its own for each place and each valve, as many as there can be.
func manyStations() impl.Plant {
	p := fullPlant()
	for i := range p.Places {
		p.Places[i].Station = "s" + strconv.Itoa(99-i)
	}
	for i := range p.Valves {
		p.Valves[i].Station = "s" + strconv.Itoa(50-i)
	}
	return p
}

func TestAsManyStationsAsThereCanBe(t *testing.T) {
	var want []string
	for i := 50 - 17; i <= 50; i++ {
		want = append(want, "s"+strconv.Itoa(i))
	}
	for i := 99 - 13; i <= 99; i++ {
		want = append(want, "s"+strconv.Itoa(i))
	}
	checkStations(t, "each of its own", manyStations(), want...)
}

func TestBooksOfStations(t *testing.T) {
	p := house()
	foes := claimFoes("ale/lye", "lye/water")
	for station, want := range map[string]impl.ClaimBook{
		"east":  {Foes: foes, Spots: []impl.ClaimSpot{spot("keg", 20, 0, 0, "")}, Valves: []string{"c"}},
		"far":   {Foes: foes, Spots: []impl.ClaimSpot{spot("m", 0, 0, 0, ""), spot("vat", 30, 0, 0, "")}, Valves: []string{"g"}},
		"guard": {Foes: foes, Valves: []string{"d", "e"}},
		"lone":  {Foes: foes, Spots: []impl.ClaimSpot{spot("barn", 1000, 0, 0, "")}},
		"mid":   {Foes: foes, Spots: []impl.ClaimSpot{spot("k", 0, 0, 0, "")}},
		"turn":  {Foes: foes, Valves: []string{"b"}},
		"west":  {Foes: foes, Spots: []impl.ClaimSpot{spot("j", 0, 0, 0, ""), spot("tun", 40, 0, 0, "")}, Valves: []string{"a", "f"}},
	} {
		checkBookOf(t, "a station", p, station, want)
		checkClaims(t, station, impl.CtlBook(p, station), true)
	}
	checkBookOf(t, "without foes", written("joint b x", "vessel a 7 x"), "x", impl.ClaimBook{Spots: []impl.ClaimSpot{spot("a", 7, 0, 0, ""), spot("b", 0, 0, 0, "")}})
	checkBookOf(t, "all of one", written("vessel a 1 x", "vessel b 1000 x", "valve b a b x", "valve a a b x"), "x", impl.ClaimBook{Spots: []impl.ClaimSpot{spot("a", 1, 0, 0, ""), spot("b", 1000, 0, 0, "")}, Valves: []string{"a", "b"}})
}

func TestBooksOfNoStation(t *testing.T) {
	p := house()
	foes := impl.ClaimBook{Foes: claimFoes("ale/lye", "lye/water")}
	for _, text := range append(noNames(), "tun", "a", "ale", "eas", "easts", "East", "east ", "0", "-") {
		checkBookOf(t, "none of the plant's", p, text, foes)
		checkClaims(t, text, impl.CtlBook(p, text), true)
		checkBookOf(t, "of nothing", impl.Plant{}, text, impl.ClaimBook{})
		checkBookOf(t, "of stuffs alone", impl.Plant{Stuffs: p.Stuffs, Foes: p.Foes}, text, foes)
	}
}

// A plant may give more to a station than a book that is ok has; it is told as it is.
func TestBooksOfStationsWithMuch(t *testing.T) {
	for _, c := range []struct{ places, valves int }{{0, 0}, {1, 0}, {8, 12}, {8, 13}, {9, 12}, {9, 13}, {8, 0}, {9, 0}, {14, 18}} {
		p := fullPlant()
		for i := range p.Places {
			p.Places[i].Station = choose(i < c.places, "s", "t")
		}
		for i := range p.Valves {
			p.Valves[i].Station = choose(i < c.valves, "s", "t")
		}
		b := impl.CtlBook(p, "s")
		checkBookOf(t, "much", p, "s", bookOfByDefinition(p, "s"))
		checkClaims(t, "much", b, c.places <= impl.ClaimMaxSpots && c.valves <= impl.ClaimMaxValves)
		if len(b.Spots) != c.places || len(b.Valves) != c.valves || len(b.Foes) != impl.ClaimMaxFoes {
			t.Errorf("%+v: %+v", c, b)
		}
	}
}

func TestStationsOfPlantsThatAreNotValid(t *testing.T) {
	for i, p := range notValid() {
		what := "plant " + strconv.Itoa(i)
		checkValid(t, what, p, false)
		checkStations(t, what, p)
		for _, station := range []string{"", "west", "east", "w", "A", "none"} {
			checkBookOf(t, what, p, station, impl.ClaimBook{})
		}
	}
}

func TestAsksOfRoutes(t *testing.T) {
	p := house()
	checkRouteAsks(t, "through all", p, 7, alongHouse(), []string{"ale"}, 5,
		ask("east", moveOf(7, "ale", "keg<5", "c", "")),
		ask("guard", moveOf(7, "ale", "", "", "d e")),
		ask("mid", moveOf(7, "ale", "k", "", "")),
		ask("turn", moveOf(7, "ale", "", "b", "")),
		ask("west", moveOf(7, "ale", "j tun>5", "a", "f")))
	checkRouteAsks(t, "back", p, 8, turnedBack(alongHouse()), []string{"ale", "water"}, 6,
		ask("east", moveOf(8, "ale water", "keg>6", "c", "")),
		ask("guard", moveOf(8, "ale water", "", "", "d e")),
		ask("mid", moveOf(8, "ale water", "k", "", "")),
		ask("turn", moveOf(8, "ale water", "", "b", "")),
		ask("west", moveOf(8, "ale water", "j tun<6", "a", "f")))
	checkRouteAsks(t, "of two places", p, 1, route("tun f keg"), []string{"lye"}, 1,
		ask("east", moveOf(1, "lye", "keg<1", "", "c")),
		ask("guard", moveOf(1, "lye", "", "", "e")),
		ask("west", moveOf(1, "lye", "tun>1", "f", "a")))
	checkRouteAsks(t, "of two places, back", p, 1, route("keg f tun"), []string{"lye"}, 1,
		ask("east", moveOf(1, "lye", "keg>1", "", "c")),
		ask("guard", moveOf(1, "lye", "", "", "e")),
		ask("west", moveOf(1, "lye", "tun<1", "f", "a")))
	checkRouteAsks(t, "of three places", p, 2, route("tun a j d vat"), []string{"ale"}, 9,
		ask("far", moveOf(2, "ale", "vat<9", "", "g")),
		ask("guard", moveOf(2, "ale", "", "d", "e")),
		ask("turn", moveOf(2, "ale", "", "", "b")),
		ask("west", moveOf(2, "ale", "j tun>9", "a", "f")))
	checkRouteAsks(t, "without guards", written("vessel a 1 x", "vessel b 1 y", "valve v a b z"), 1, route("b v a"), []string{"ale"}, 1,
		ask("x", moveOf(1, "ale", "a<1", "", "")), ask("y", moveOf(1, "ale", "b>1", "", "")), ask("z", moveOf(1, "ale", "", "v", "")))
}

func TestAsksOfRoutesThroughOneStation(t *testing.T) {
	p := written("vessel a 5 x", "joint b x", "vessel c 5 x", "joint d y", "valve z a b x", "valve y b c x", "valve x b d x", "valve w a c x", "valve v d c y")
	checkRouteAsks(t, "all of x, with a guard of y", p, 3, route("a z b y c"), []string{"ale"}, 2,
		ask("x", moveOf(3, "ale", "a>2 b c<2", "y z", "w x")),
		ask("y", moveOf(3, "ale", "", "", "v")))
	checkRouteAsks(t, "and back", p, 3, route("c y b z a"), []string{"ale"}, 2,
		ask("x", moveOf(3, "ale", "a<2 b c>2", "y z", "w x")),
		ask("y", moveOf(3, "ale", "", "", "v")))
	p = written("vessel a 5 x", "joint b x", "vessel c 5 x", "joint d y", "joint e y", "valve z a b x", "valve y b c x", "valve v d e y")
	checkRouteAsks(t, "all of x", p, 3, route("a z b y c"), []string{"ale"}, 2, ask("x", moveOf(3, "ale", "a>2 b c<2", "y z", "")))
	// A place, a valve and a station may be called the same.
	p = written("vessel a 5 a", "joint b c", "vessel c 5 b", "valve b a b a", "valve a b c b", "valve c a c c")
	checkRouteAsks(t, "one name for all", p, 3, route("a b b a c"), []string{"a"}, 2,
		ask("a", moveOf(3, "a", "a>2", "b", "")), ask("b", moveOf(3, "a", "c<2", "a", "")), ask("c", moveOf(3, "a", "b", "", "c")))
}

// A route may be longer than a want that is ok; what is asked is all of it.
func TestAsksOfTheLongestRoute(t *testing.T) {
	p := fullPlant()
	for i := range p.Places {
		p.Places[i].Cap = 0
	}
	p.Places[0].Cap, p.Places[13].Cap = 1, impl.PlantMaxCap
	r := impl.PlantRoutes(p, "p10", "p23")[0]
	names := namesOfPlaces(p)
	uses := "p10>3 " + strings.Join(names[1:13], " ") + " p23<3"
	checkRouteAsks(t, "the longest", p, 1, r, []string{"ale"}, 3,
		ask("east", moveOf(1, "ale", "", "v10 v11 v12 v13 v14 v15 v16 v17 v18 v19 v20 v21 v22", "v23 v24 v25 v26 v27")),
		ask("west", moveOf(1, "ale", uses, "", "")))
	for _, a := range impl.CtlRouteAsks(p, 1, r, []string{"ale"}, 3) {
		checkWant(t, a.Station, a.Want, false)
	}
	p = manyStations()
	for i := range p.Places {
		p.Places[i].Cap = choose(i == 0 || i == 13, 9, 0)
	}
	if asks := impl.CtlRouteAsks(p, 1, r, []string{"ale"}, 3); len(asks) != 14+18 {
		t.Errorf("%d are asked", len(asks))
	}
	checkRouteAsks(t, "each of its own", p, 1, r, []string{"ale"}, 3, routeAsksByDefinition(p, 1, r, []string{"ale"}, 3)...)
}

func TestAsksAreTakenAsTheyAre(t *testing.T) {
	p := house()
	for _, number := range []int{math.MinInt, -1, 0, 1, impl.ClaimMaxNumber, impl.ClaimMaxNumber + 1, math.MaxInt} {
		for _, amount := range []int{math.MinInt, -1, 0, 1, 41, impl.ClaimMaxCap, impl.ClaimMaxCap + 1, math.MaxInt} {
			for _, stuffs := range [][]string{nil, {}, {"ale"}, {"ale", "lye"}, {"water", "ale"}, {"ale", "ale"}, {"none"}, {""}, {"Ale", "\xff"}, numbered("s", 9)} {
				fit := number >= 1 && number <= 1000000 && amount >= 1 && amount <= 1000 && len(stuffs) > 0 && ascendingNames(stuffs, 8)
				from := []impl.ClaimUse{{Name: "j", Role: impl.ClaimBy}, {Name: "tun", Role: impl.ClaimFrom, Amount: amount}}
				to := []impl.ClaimUse{{Name: "keg", Role: impl.ClaimTo, Amount: amount}}
				want := []impl.CtlAsk{
					ask("east", impl.ClaimWant{Uses: to, Opens: []string{"c"}}),
					ask("guard", impl.ClaimWant{Shuts: []string{"d", "e"}}),
					ask("mid", impl.ClaimWant{Uses: places("k")}),
					ask("turn", impl.ClaimWant{Opens: []string{"b"}}),
					ask("west", impl.ClaimWant{Uses: from, Opens: []string{"a"}, Shuts: []string{"f"}}),
				}
				for i := range want {
					want[i].Want.Number, want[i].Want.Kind, want[i].Want.Stuffs = number, impl.ClaimMove, stuffs
				}
				checkRouteAsks(t, "as they are", p, number, alongHouse(), stuffs, amount, want...)
				all := impl.CtlRouteAsks(p, number, alongHouse(), stuffs, amount)
				if !slices.ContainsFunc(all, func(a impl.CtlAsk) bool { return !impl.ClaimWantOk(a.Want) }) != fit {
					t.Errorf("of %d, %q and %d wants are asked that are ok, or not: %+v", number, stuffs, amount, all)
				}
			}
		}
		checkPlaceAsks(t, "as it is", p, number, impl.ClaimClean, []string{"k"},
			ask("east", cleanOf(number, "", "c")), ask("mid", cleanOf(number, "k", "")), ask("turn", cleanOf(number, "", "b")))
	}
}

func TestAsksOfWhatIsNoRoute(t *testing.T) {
	p := mesh()
	all := noRoutes()
	for _, text := range noNames() {
		all["first "+text] = impl.PlantRoute{Places: []string{text, "j", "b"}, Valves: []string{"v1", "v2"}}
		all["inner "+text] = impl.PlantRoute{Places: []string{"a", text, "b"}, Valves: []string{"v1", "v2"}}
		all["last "+text] = impl.PlantRoute{Places: []string{"a", "j", text}, Valves: []string{"v1", "v2"}}
		all["valve "+text] = impl.PlantRoute{Places: []string{"a", "j", "b"}, Valves: []string{"v1", text}}
		all["valve ahead "+text] = impl.PlantRoute{Places: []string{"a", "j", "b"}, Valves: []string{text, "v2"}}
	}
	for what, r := range all {
		checkRouteAsks(t, what, p, 1, r, []string{"ale"}, 1)
	}
	checkRouteAsks(t, "what is one", p, 1, route("a v1 j v2 b"), []string{"ale"}, 1, routeAsksByDefinition(p, 1, route("a v1 j v2 b"), []string{"ale"}, 1)...)
	checkRouteAsks(t, "of nothing", impl.Plant{}, 1, impl.PlantRoute{}, nil, 1)
	// What was a route is none when the plant is another one.
	r := alongHouse()
	for i := range r.Places {
		q := house()
		at := slices.IndexFunc(q.Places, func(x impl.PlantPlace) bool { return x.Name == r.Places[i] })
		q.Places[at].Cap = choose(q.Places[at].Cap == 0, 1, 0)
		checkRouteAsks(t, "with another place at "+strconv.Itoa(i), q, 1, r, []string{"ale"}, 1)
	}
}

func TestAsksOfAllShortRoutes(t *testing.T) {
	p := written("vessel a 9 x", "vessel b 9 y", "joint j x", "joint k z", "valve v a j z", "valve w j b x", "valve x j k y", "valve y k b x", "valve z a b u")
	found := 0
	eachList([]string{"a ", "b ", "j ", "k ", "none "}, 4, func(places []string) {
		eachList([]string{"v ", "w ", "x ", "y ", "z "}, 3, func(valves []string) {
			r := impl.PlantRoute{Places: places, Valves: valves}
			want := routeAsksByDefinition(p, 2, r, []string{"ale"}, 3)
			checkRouteAsks(t, "a short one", p, 2, r, []string{"ale"}, 3, want...)
			if len(want) > 0 {
				found++
			}
		})
	})
	if want := 2 * len(impl.PlantRoutes(p, "a", "b")); found != want {
		t.Errorf("%d lists are routes; want %d", found, want)
	}
}

func TestAsksOfPlaces(t *testing.T) {
	p := house()
	for kind, of := range map[int]func(number int, uses, shuts string) impl.ClaimWant{impl.ClaimClean: cleanOf, impl.ClaimPermit: permitOf} {
		for _, c := range []struct {
			places string
			want   []impl.CtlAsk
		}{
			{"j", []impl.CtlAsk{ask("guard", of(4, "", "d")), ask("turn", of(4, "", "b")), ask("west", of(4, "j", "a"))}},
			{"k", []impl.CtlAsk{ask("east", of(4, "", "c")), ask("mid", of(4, "k", "")), ask("turn", of(4, "", "b"))}},
			// The valve between the two is kept shut once.
			{"j k", []impl.CtlAsk{ask("east", of(4, "", "c")), ask("guard", of(4, "", "d")), ask("mid", of(4, "k", "")), ask("turn", of(4, "", "b")), ask("west", of(4, "j", "a"))}},
			{"keg", []impl.CtlAsk{ask("east", of(4, "keg", "c")), ask("guard", of(4, "", "e")), ask("west", of(4, "", "f"))}},
			{"keg tun", []impl.CtlAsk{ask("east", of(4, "keg", "c")), ask("guard", of(4, "", "e")), ask("west", of(4, "tun", "a f"))}},
			{"j tun", []impl.CtlAsk{ask("guard", of(4, "", "d")), ask("turn", of(4, "", "b")), ask("west", of(4, "j tun", "a f"))}},
			{"m", []impl.CtlAsk{ask("far", of(4, "m", "g"))}},
			{"m vat", []impl.CtlAsk{ask("far", of(4, "m vat", "g")), ask("guard", of(4, "", "d e"))}},
			{"barn", []impl.CtlAsk{ask("lone", of(4, "barn", ""))}},
			{"barn m", []impl.CtlAsk{ask("far", of(4, "m", "g")), ask("lone", of(4, "barn", ""))}},
			{"barn j k keg m tun vat", []impl.CtlAsk{ask("east", of(4, "keg", "c")), ask("far", of(4, "m vat", "g")), ask("guard", of(4, "", "d e")), ask("lone", of(4, "barn", "")), ask("mid", of(4, "k", "")), ask("turn", of(4, "", "b")), ask("west", of(4, "j tun", "a f"))}},
		} {
			checkPlaceAsks(t, "places", p, 4, kind, strings.Fields(c.places), c.want...)
		}
	}
}

func TestKindsOfAsksOfPlaces(t *testing.T) {
	for kind := range someKinds() {
		w := impl.ClaimWant{Number: 2, Kind: kind, Uses: places("barn")}
		var want []impl.CtlAsk
		if kind == impl.ClaimClean || kind == impl.ClaimPermit {
			want = append(want, ask("lone", w))
		}
		checkPlaceAsks(t, "a kind", house(), 2, kind, []string{"barn"}, want...)
	}
}

func TestHowManyPlacesAreAskedFor(t *testing.T) {
	p := fullPlant()
	names := namesOfPlaces(p)
	for _, kind := range []int{impl.ClaimClean, impl.ClaimPermit} {
		for many := range len(names) + 1 {
			asks := impl.CtlPlaceAsks(p, 1, kind, names[:many])
			if is := many >= 1 && many <= 8; (len(asks) > 0) != is {
				t.Errorf("of %d places %+v", many, asks)
			}
			last := impl.CtlPlaceAsks(p, 1, kind, names[len(names)-many:])
			if len(last) != len(asks) {
				t.Errorf("of the last %d places %+v", many, last)
			}
			checkPlaceAsks(t, strconv.Itoa(many), p, 1, kind, names[:many], placeAsksByDefinition(p, 1, kind, names[:many])...)
		}
		checkPlaceAsks(t, "an empty list", p, 1, kind, []string{})
	}
	checkPlaceAsks(t, "of nothing", impl.Plant{}, 1, impl.ClaimClean, nil)
	checkPlaceAsks(t, "of nothing", impl.Plant{}, 1, impl.ClaimClean, []string{""})
}

func TestPlacesThatAreNotAPlants(t *testing.T) {
	p := house()
	for _, kind := range []int{impl.ClaimClean, impl.ClaimPermit} {
		for _, text := range []string{"k j", "tun keg", "j j", "tun tun", "j k j", "j k k", "j keg k", "none", "a", "west", "ale", "j none", "a j", "j none tun", "j tun vat zz", "0 j"} {
			checkPlaceAsks(t, text, p, 4, kind, strings.Fields(text))
		}
		for _, text := range noNames() {
			checkPlaceAsks(t, "alone", p, 4, kind, []string{text})
			list := []string{"j", "tun", text}
			slices.Sort(list)
			checkPlaceAsks(t, "with others", p, 4, kind, list)
		}
		names := namesOfPlaces(p)
		for i, wrong := range swapped(names) {
			checkPlaceAsks(t, "out of order "+strconv.Itoa(i), p, 4, kind, wrong)
		}
	}
}

func TestAsksOfAllShortPlaces(t *testing.T) {
	p := written("vessel a 9 x", "vessel b 9 y", "joint j x", "joint k z", "valve v a j z", "valve w j b x", "valve x j k y", "valve y k b x", "valve z a b u")
	eachOf([]string{"a", "b", "j", "k", "v", ""}, 4, func(list []string) {
		for kind := range 5 {
			checkPlaceAsks(t, "short", p, 3, kind, list, placeAsksByDefinition(p, 3, kind, list)...)
		}
	})
}

func TestAsksOfPlantsThatAreNotValid(t *testing.T) {
	for i, p := range notValid() {
		what := "plant " + strconv.Itoa(i)
		for _, r := range routes("keg c tun", "tun b j a keg", "p11 v11 p12", "x x y", "") {
			checkRouteAsks(t, what, p, 1, r, []string{"ale"}, 1)
		}
		for _, list := range [][]string{{"j"}, {"keg"}, {"j", "keg", "tun"}, {"p10"}, {"x"}, {""}, nil} {
			checkPlaceAsks(t, what, p, 1, impl.ClaimClean, list)
			checkPlaceAsks(t, what, p, 1, impl.ClaimPermit, list)
		}
	}
}

// stationsByDefinition reads the chapter a second time.
func stationsByDefinition(p impl.Plant) []string {
	all := map[string]bool{}
	for _, x := range p.Places {
		all[x.Station] = true
	}
	for _, v := range p.Valves {
		all[v.Station] = true
	}
	return slices.Sorted(maps.Keys(all))
}

func bookOfByDefinition(p impl.Plant, station string) impl.ClaimBook {
	var b impl.ClaimBook
	for _, f := range p.Foes {
		b.Foes = append(b.Foes, impl.ClaimFoe{A: f.A, B: f.B})
	}
	for _, x := range p.Places {
		if x.Station == station {
			b.Spots = append(b.Spots, impl.ClaimSpot{Name: x.Name, Cap: x.Cap})
		}
	}
	for _, v := range p.Valves {
		if v.Station == station {
			b.Valves = append(b.Valves, v.Name)
		}
	}
	return b
}

// sharedByDefinition gives each thing of a want to its station, and puts them in order then.
func sharedByDefinition(p impl.Plant, w impl.ClaimWant) []impl.CtlAsk {
	ofPlace, ofValve := map[string]string{}, map[string]string{}
	for _, x := range p.Places {
		ofPlace[x.Name] = x.Station
	}
	for _, v := range p.Valves {
		ofValve[v.Name] = v.Station
	}
	wants := map[string]impl.ClaimWant{}
	give := func(station string, use []impl.ClaimUse, opens, shuts []string) {
		mine := wants[station]
		mine.Number, mine.Kind, mine.Stuffs = w.Number, w.Kind, w.Stuffs
		mine.Uses, mine.Opens, mine.Shuts = append(mine.Uses, use...), append(mine.Opens, opens...), append(mine.Shuts, shuts...)
		slices.SortFunc(mine.Uses, func(a, b impl.ClaimUse) int { return strings.Compare(a.Name, b.Name) })
		slices.Sort(mine.Opens)
		slices.Sort(mine.Shuts)
		wants[station] = mine
	}
	for _, u := range w.Uses {
		give(ofPlace[u.Name], []impl.ClaimUse{u}, nil, nil)
	}
	for _, valve := range w.Opens {
		give(ofValve[valve], nil, []string{valve}, nil)
	}
	for _, valve := range w.Shuts {
		give(ofValve[valve], nil, nil, []string{valve})
	}
	var all []impl.CtlAsk
	for _, station := range slices.Sorted(maps.Keys(wants)) {
		all = append(all, ask(station, wants[station]))
	}
	return all
}

// shutAt is the valves of which an end is one of some places, but for those that are opened.
func shutAt(p impl.Plant, places, opens []string) []string {
	var all []string
	for _, v := range p.Valves {
		if !slices.Contains(opens, v.Name) && (slices.Contains(places, v.A) || slices.Contains(places, v.B)) {
			all = append(all, v.Name)
		}
	}
	return all
}

// wholeMove is all that a move along a route wants of all stations.
func wholeMove(p impl.Plant, number int, r impl.PlantRoute, stuffs []string, amount int) impl.ClaimWant {
	w := impl.ClaimWant{Number: number, Kind: 1, Stuffs: stuffs, Opens: r.Valves, Shuts: shutAt(p, r.Places, r.Valves)}
	for i, place := range r.Places {
		u := impl.ClaimUse{Name: place, Role: 3}
		switch i {
		case 0:
			u.Role, u.Amount = 1, amount
		case len(r.Places) - 1:
			u.Role, u.Amount = 2, amount
		}
		w.Uses = append(w.Uses, u)
	}
	return w
}

// wholeStill is all that is wanted of all stations for places.
func wholeStill(p impl.Plant, number, kind int, list []string) impl.ClaimWant {
	w := impl.ClaimWant{Number: number, Kind: kind, Shuts: shutAt(p, list, nil)}
	for _, place := range list {
		w.Uses = append(w.Uses, impl.ClaimUse{Name: place, Role: 3})
	}
	return w
}

func routeAsksByDefinition(p impl.Plant, number int, r impl.PlantRoute, stuffs []string, amount int) []impl.CtlAsk {
	if !impl.PlantValid(p) || !routeByDefinition(p, r) {
		return nil
	}
	return sharedByDefinition(p, wholeMove(p, number, r, stuffs, amount))
}

func placeAsksByDefinition(p impl.Plant, number, kind int, list []string) []impl.CtlAsk {
	if !impl.PlantValid(p) || kind != 2 && kind != 3 || len(list) == 0 || !ascendingNames(list, 8) {
		return nil
	}
	for _, place := range list {
		if !slices.Contains(namesOfPlaces(p), place) {
			return nil
		}
	}
	return sharedByDefinition(p, wholeStill(p, number, kind, list))
}

// checkIsTheirs says of what is asked that each is asked of its own station, which knows it, and of none that has none of it.
func checkIsTheirs(t *testing.T, p impl.Plant, asks []impl.CtlAsk) {
	t.Helper()
	var asked []string
	for _, a := range asks {
		asked = append(asked, a.Station)
		b := bookOfByDefinition(p, a.Station)
		for _, u := range a.Want.Uses {
			if !slices.ContainsFunc(b.Spots, func(s impl.ClaimSpot) bool { return s.Name == u.Name }) {
				t.Errorf("%q is asked for the place %q: %+v", a.Station, u.Name, p)
			}
		}
		for _, valve := range slices.Concat(a.Want.Opens, a.Want.Shuts) {
			if !slices.Contains(b.Valves, valve) {
				t.Errorf("%q is asked for the valve %q: %+v", a.Station, valve, p)
			}
		}
		if len(a.Want.Uses)+len(a.Want.Opens)+len(a.Want.Shuts) == 0 {
			t.Errorf("%q is asked for nothing: %+v", a.Station, p)
		}
		// To a station that knows nothing yet a want that is ok is one that it knows.
		if impl.ClaimBookOk(b) && impl.ClaimCode(impl.CtlBook(p, a.Station), a.Want) == 2 != !impl.ClaimWantOk(a.Want) {
			t.Errorf("%q does not know %+v: %+v", a.Station, a.Want, p)
		}
	}
	stations := impl.CtlStations(p)
	if !slices.IsSorted(asked) || len(slices.Compact(slices.Clone(asked))) != len(asked) || slices.ContainsFunc(asked, func(s string) bool { return !slices.Contains(stations, s) }) {
		t.Errorf("%q are asked, of %q", asked, stations)
	}
}

// checkAllIsAsked says of what is asked that together it is a whole want, each place and valve of it once.
func checkAllIsAsked(t *testing.T, p impl.Plant, whole impl.ClaimWant, asks []impl.CtlAsk) {
	t.Helper()
	var uses []impl.ClaimUse
	var opens, shuts []string
	for _, a := range asks {
		uses, opens, shuts = append(uses, a.Want.Uses...), append(opens, a.Want.Opens...), append(shuts, a.Want.Shuts...)
		if a.Want.Number != whole.Number || a.Want.Kind != whole.Kind || !slices.Equal(a.Want.Stuffs, whole.Stuffs) {
			t.Errorf("%+v is asked, of %+v", a, whole)
		}
	}
	byName := func(a, b impl.ClaimUse) int { return strings.Compare(a.Name, b.Name) }
	inOrder := slices.SortedFunc(slices.Values(whole.Uses), byName)
	slices.SortFunc(uses, byName)
	slices.Sort(opens)
	slices.Sort(shuts)
	if !slices.Equal(uses, inOrder) || !slices.Equal(opens, slices.Sorted(slices.Values(whole.Opens))) || !slices.Equal(shuts, slices.Sorted(slices.Values(whole.Shuts))) {
		t.Errorf("together %+v, %q and %q are asked; want %+v: %+v", uses, opens, shuts, whole, p)
	}
	if len(slices.Compact(slices.Sorted(slices.Values(append(opens, shuts...))))) != len(opens)+len(shuts) {
		t.Errorf("a valve is asked for twice: %+v", asks)
	}
	checkIsTheirs(t, p, asks)
}

// somePlant draws one that is valid.
func somePlant(dice *rand.Rand) impl.Plant {
	var p impl.Plant
	stations := numbered("s", 1+dice.Intn(6))
	station := func() string { return stations[dice.Intn(len(stations))] }
	p.Stuffs = letters(dice.Intn(5))
	for i, a := range p.Stuffs {
		for _, b := range p.Stuffs[i+1:] {
			if dice.Intn(3) == 0 {
				p.Foes = append(p.Foes, impl.PlantFoe{A: a, B: b})
			}
		}
	}
	for _, name := range numbered("p", dice.Intn(impl.PlantMaxPlaces+1)) {
		p.Places = append(p.Places, impl.PlantPlace{Name: name, Cap: max(0, dice.Intn(20)-9), Station: station()})
	}
	if len(p.Places) < 2 {
		return p
	}
	names := numbered(choose(dice.Intn(2) == 0, "v", "p"), dice.Intn(impl.PlantMaxValves+1))
	for _, name := range names {
		two := dice.Perm(len(p.Places))[:2]
		slices.Sort(two)
		p.Valves = append(p.Valves, impl.PlantValve{Name: name, A: p.Places[two[0]].Name, B: p.Places[two[1]].Name, Station: station()})
	}
	return p
}

// Promise 27.
func TestAllIsAskedOfItsOwnStationOnce(t *testing.T) {
	dice := rand.New(rand.NewSource(27))
	along, at := 0, 0
	for range 400 {
		p := somePlant(dice)
		checkValid(t, "drawn", p, true)
		number, amount := dice.Intn(9), dice.Intn(9)
		stuffs := pick(p.Stuffs, dice.Intn(32))
		all := allRoutes(p)
		for _, i := range dice.Perm(len(all))[:min(len(all), 20)] {
			asks := impl.CtlRouteAsks(p, number, all[i], stuffs, amount)
			checkAllIsAsked(t, p, wholeMove(p, number, all[i], stuffs, amount), asks)
			checkRouteAsks(t, "drawn", p, number, all[i], stuffs, amount, routeAsksByDefinition(p, number, all[i], stuffs, amount)...)
			along++
		}
		for range 10 {
			list := pick(namesOfPlaces(p), dice.Intn(1<<14))
			kind := 2 + dice.Intn(2)
			if len(list) >= 1 && len(list) <= impl.ClaimMaxUses {
				checkAllIsAsked(t, p, wholeStill(p, number, kind, list), impl.CtlPlaceAsks(p, number, kind, list))
				at++
			}
			checkPlaceAsks(t, "drawn", p, number, kind, list, placeAsksByDefinition(p, number, kind, list)...)
		}
	}
	if along < 1000 || at < 1000 {
		t.Errorf("%d routes and %d choices of places were drawn", along, at)
	}
}

func TestStationsOfDrawnPlants(t *testing.T) {
	dice := rand.New(rand.NewSource(31))
	for range 2000 {
		p := somePlant(dice)
		want := stationsByDefinition(p)
		checkStations(t, "drawn", p, want...)
		spots, valves := 0, 0
		for _, station := range append(want, "none") {
			b := bookOfByDefinition(p, station)
			checkBookOf(t, "drawn", p, station, b)
			checkClaims(t, "drawn", impl.CtlBook(p, station), len(b.Spots) <= 8 && len(b.Valves) <= 12)
			spots, valves = spots+len(b.Spots), valves+len(b.Valves)
		}
		if spots != len(p.Places) || valves != len(p.Valves) {
			t.Errorf("%d places and %d valves are a station's: %+v", spots, valves, p)
		}
	}
}

// asking is what asks may be made of.
type asking struct {
	Plant  impl.Plant
	Number int
	Kind   int
	Route  impl.PlantRoute
	Places []string
	Stuffs []string
	Amount int
}

func checkAsksByReading(t *testing.T, what string, a asking) {
	t.Helper()
	checkRouteAsks(t, what, a.Plant, a.Number, a.Route, a.Stuffs, a.Amount, routeAsksByDefinition(a.Plant, a.Number, a.Route, a.Stuffs, a.Amount)...)
	checkPlaceAsks(t, what, a.Plant, a.Number, a.Kind, a.Places, placeAsksByDefinition(a.Plant, a.Number, a.Kind, a.Places)...)
	var stations []string
	var book impl.ClaimBook
	if impl.PlantValid(a.Plant) {
		stations, book = stationsByDefinition(a.Plant), bookOfByDefinition(a.Plant, "west")
	}
	checkStations(t, what, a.Plant, stations...)
	checkBookOf(t, what, a.Plant, "west", book)
}

func TestAsksOfWhichOneThingIsChanged(t *testing.T) {
	small := smallPlant()
	for i, from := range []asking{
		{house(), 3, impl.ClaimClean, alongHouse(), []string{"j", "k", "keg"}, []string{"ale", "water"}, 7},
		{house(), 3, impl.ClaimPermit, route("tun f keg"), []string{"barn", "tun"}, []string{"ale"}, 1},
		{small, 1, impl.ClaimPermit, route("tun b j a keg"), []string{"tun"}, nil, 1},
	} {
		asked := 0
		eachWithOneChange(from, textsOfAll(from), func(a asking) {
			checkAsksByReading(t, "one thing of "+strconv.Itoa(i), a)
			if len(impl.CtlRouteAsks(a.Plant, a.Number, a.Route, a.Stuffs, a.Amount)) > 0 && len(impl.CtlPlaceAsks(a.Plant, a.Number, a.Kind, a.Places)) > 0 {
				asked++
			}
		})
		if asked < 100 {
			t.Errorf("%d: asked %d times", i, asked)
		}
	}
}

// someAskings is what is asked, and what is not.
func someAskings() []asking {
	all := []asking{
		{house(), 3, impl.ClaimClean, alongHouse(), []string{"j", "k", "keg"}, []string{"ale", "water"}, 7},
		{house(), 3, impl.ClaimPermit, turnedBack(alongHouse()), []string{"barn", "tun"}, []string{"ale"}, 1},
		{house(), -1, 7, route("a"), []string{"j", "j"}, []string{""}, -1},
		{fullPlant(), 1, impl.ClaimPermit, route("p11 v11 p12"), namesOfPlaces(fullPlant())[:8], numbered("s", 20), 1},
		{manyStations(), 1, impl.ClaimClean, route("p11 v11 p12"), namesOfPlaces(fullPlant())[6:], nil, 1},
		{impl.Plant{}, 1, impl.ClaimClean, impl.PlantRoute{}, nil, nil, 1},
		{mesh(), 1, impl.ClaimClean, route("a v1 j v2 b"), namesOfPlaces(mesh()), []string{"x"}, 2},
	}
	for _, p := range spoilt() {
		all = append(all, asking{p, 1, impl.ClaimClean, route("tun c keg"), []string{"tun"}, []string{"ale"}, 1})
	}
	return all
}

func TestAsksLeaveTheirArguments(t *testing.T) {
	for _, from := range someAskings() {
		a := withRoom(from)
		was := withWhatIsBehind(a)
		stations := impl.CtlStations(a.Plant)
		checkStations(t, "without room", from.Plant, stations...)
		checkBookOf(t, "without room", from.Plant, "west", impl.CtlBook(a.Plant, "west"))
		checkRouteAsks(t, "without room", from.Plant, a.Number, from.Route, from.Stuffs, a.Amount, impl.CtlRouteAsks(a.Plant, a.Number, a.Route, a.Stuffs, a.Amount)...)
		checkPlaceAsks(t, "without room", from.Plant, a.Number, a.Kind, from.Places, impl.CtlPlaceAsks(a.Plant, a.Number, a.Kind, a.Places)...)
		if !reflect.DeepEqual(withWhatIsBehind(a), was) {
			t.Errorf("the arguments became %+v", withWhatIsBehind(a))
		}
	}
}

func TestAsksAreNewMemory(t *testing.T) {
	for i, from := range someAskings() {
		a := withRoom(from)
		what := strconv.Itoa(i)
		stations := impl.CtlStations(a.Plant)
		checkOwnMemory(t, "CtlStations "+what, stations, a)
		checkOwnLists(t, "CtlStations "+what, stations, a)
		for _, station := range append(slices.Clone(stations), "none") {
			b := impl.CtlBook(a.Plant, station)
			checkOwnMemory(t, "CtlBook "+what, b, a, station, stations)
			checkOwnLists(t, "CtlBook "+what, b, a, stations)
		}
		asks := impl.CtlRouteAsks(a.Plant, a.Number, a.Route, a.Stuffs, a.Amount)
		checkOwnMemory(t, "CtlRouteAsks "+what, asks, a, stations)
		checkOwnLists(t, "CtlRouteAsks "+what, asks, a, stations)
		still := impl.CtlPlaceAsks(a.Plant, a.Number, a.Kind, a.Places)
		checkOwnMemory(t, "CtlPlaceAsks "+what, still, a, stations, asks)
		checkOwnLists(t, "CtlPlaceAsks "+what, still, a, stations, asks)
	}
	a := someAskings()[0]
	for _, one := range impl.CtlRouteAsks(a.Plant, a.Number, a.Route, a.Stuffs, a.Amount) {
		spoilTexts(one.Want.Stuffs)
		spoilTexts(one.Want.Opens)
		spoilTexts(one.Want.Shuts)
	}
	spoilTexts(impl.CtlStations(a.Plant))
	spoilTexts(impl.CtlBook(a.Plant, "west").Valves)
	checkAsksByReading(t, "behind answers that were written into", a)
}

func TestAsksOfVeryLongLists(t *testing.T) {
	long := 20000
	names := numbered("s", long)
	p := house()
	checkRouteAsks(t, "stuffs", p, 1, route("tun f keg"), names, 1, routeAsksByDefinition(p, 1, route("tun f keg"), names, 1)...)
	checkPlaceAsks(t, "places", p, 1, impl.ClaimClean, names)
	checkPlaceAsks(t, "one place for long", p, 1, impl.ClaimClean, slices.Repeat([]string{"j"}, long))
	checkPlaceAsks(t, "a long name", p, 1, impl.ClaimClean, []string{strings.Repeat("j", 1<<20)})
	checkRouteAsks(t, "a long route", p, 1, impl.PlantRoute{Places: names, Valves: names[1:]}, nil, 1)
	checkRouteAsks(t, "a long way there and back", p, 1, impl.PlantRoute{Places: slices.Repeat([]string{"tun", "keg"}, long), Valves: slices.Repeat([]string{"f"}, 2*long-1)}, nil, 1)
	q := house()
	for _, name := range names {
		q.Valves = append(q.Valves, impl.PlantValve{Name: name, A: "j", B: "tun", Station: "west"})
	}
	checkStations(t, "a long plant", q)
	checkBookOf(t, "a long plant", q, "west", impl.ClaimBook{})
	checkRouteAsks(t, "a long plant", q, 1, alongHouse(), nil, 1)
	checkPlaceAsks(t, "a long plant", q, 1, impl.ClaimClean, []string{"j"})
}

// What one call was given must not be seen in the next one, nor in one beside it.
func TestAsksKeepNothing(t *testing.T) {
	all := someAskings()
	var callers sync.WaitGroup
	for range 8 {
		callers.Go(func() {
			for i := range 40 {
				checkAsksByReading(t, "one beside others", all[i%len(all)])
			}
		})
	}
	callers.Wait()
}
