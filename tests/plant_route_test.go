package tests

import (
	"cmp"
	"reflect"
	"slices"
	"strconv"
	"strings"
	"testing"

	"loop.example/malthouse/impl"
)

// route is one from its places and valves by turns, as in "a v1 j v2 b".
func route(text string) impl.PlantRoute {
	var r impl.PlantRoute
	for i, word := range strings.Fields(text) {
		if i%2 == 0 {
			r.Places = append(r.Places, word)
		} else {
			r.Valves = append(r.Valves, word)
		}
	}
	return r
}

func sameRoute(a, b impl.PlantRoute) bool {
	return slices.Equal(a.Places, b.Places) && slices.Equal(a.Valves, b.Valves)
}

func checkRoutes(t *testing.T, p impl.Plant, from, to string, want ...impl.PlantRoute) {
	t.Helper()
	if got := impl.PlantRoutes(p, from, to); !slices.EqualFunc(got, want, sameRoute) {
		t.Errorf("PlantRoutes from %q to %q = %v; want %v, in %+v", from, to, got, want, p)
	}
}

func routes(texts ...string) []impl.PlantRoute {
	var all []impl.PlantRoute
	for _, text := range texts {
		all = append(all, route(text))
	}
	return all
}

// laid is a plant of vessels and joints, with valves that are told as "NAME A B".
func laid(vessels, joints string, valves ...string) impl.Plant {
	var text strings.Builder
	for _, name := range strings.Fields(vessels) {
		text.WriteString("vessel " + name + " 9 w\n")
	}
	for _, name := range strings.Fields(joints) {
		text.WriteString("joint " + name + " e\n")
	}
	for _, valve := range valves {
		text.WriteString("valve " + valve + " w\n")
	}
	p, fault := impl.PlantParse(text.String())
	if fault != (impl.PlantFault{}) {
		panic(text.String())
	}
	return p
}

// mesh has routes of two to four valves between its vessels, by joints and two valves side by side.
func mesh() impl.Plant {
	return laid("a b c", "j k", "v1 a j", "v2 j b", "v3 j k", "v4 k b", "v5 k c", "v6 a j")
}

func TestRoutesOfOrdinaryPlants(t *testing.T) {
	p := mesh()
	checkRoutes(t, p, "a", "b", routes("a v1 j v2 b", "a v6 j v2 b", "a v1 j v3 k v4 b", "a v6 j v3 k v4 b")...)
	checkRoutes(t, p, "b", "a", routes("b v2 j v1 a", "b v2 j v6 a", "b v4 k v3 j v1 a", "b v4 k v3 j v6 a")...)
	checkRoutes(t, p, "c", "b", routes("c v5 k v4 b", "c v5 k v3 j v2 b")...)
	checkRoutes(t, p, "a", "c", routes("a v1 j v3 k v5 c", "a v6 j v3 k v5 c")...)
	checkRoutes(t, smallPlant(), "keg", "tun", routes("keg c tun", "keg a j b tun")...)
	checkRoutes(t, smallPlant(), "tun", "keg", routes("tun c keg", "tun b j a keg")...)
}

func TestRoutesThatAreNone(t *testing.T) {
	p := mesh()
	for _, x := range p.Places {
		checkRoutes(t, p, x.Name, x.Name)
	}
	for _, c := range [][2]string{{"a", "j"}, {"j", "a"}, {"j", "k"}, {"k", "b"}, {"v1", "a"}, {"a", "v1"}, {"w", "a"}} {
		checkRoutes(t, p, c[0], c[1])
	}
	for _, text := range noNames() {
		checkRoutes(t, p, "a", text)
		checkRoutes(t, p, text, "a")
		checkRoutes(t, p, text, text)
	}
	p = laid("a b c", "j k", "v1 a j", "v2 j k", "v3 c b")
	checkRoutes(t, p, "a", "b")
	checkRoutes(t, p, "b", "a")
	checkRoutes(t, p, "b", "c", routes("b v3 c")...)
	checkRoutes(t, impl.Plant{}, "", "")
	checkRoutes(t, laid("a b", ""), "a", "b")
}

func TestRoutesThroughNoThirdVessel(t *testing.T) {
	checkRoutes(t, laid("a b c", "", "v1 a b", "v2 b c"), "a", "c")
	checkRoutes(t, laid("a b c", "", "v1 a b", "v2 b c", "v3 a c"), "a", "c", routes("a v3 c")...)
	p := laid("a b c", "j k", "v1 a j", "v2 j c", "v3 c k", "v4 k b")
	checkRoutes(t, p, "a", "b")
	checkRoutes(t, p, "a", "c", routes("a v1 j v2 c")...)
	checkRoutes(t, laid("a b", "c j k", "v1 a j", "v2 j c", "v3 c k", "v4 k b"), "a", "b", routes("a v1 j v2 c v3 k v4 b")...)
}

func TestRoutesByTheirOrder(t *testing.T) {
	side := laid("a b", "", "z a b", "x a b", "y a b")
	checkRoutes(t, side, "a", "b", routes("a x b", "a y b", "a z b")...)
	checkRoutes(t, side, "b", "a", routes("b x a", "b y a", "b z a")...)
	// Fewer valves come first, though their names come last; a name that begins a longer one is ahead.
	p := laid("a b", "j k", "z a b", "b1 a j", "b a k", "y j b", "c k b", "a j k")
	checkRoutes(t, p, "a", "b", routes("a z b", "a b k c b", "a b1 j y b", "a b k a j y b", "a b1 j a k c b")...)
	// The first valve tells, and not the places or the last one.
	p = laid("m n", "j k", "2 m j", "1 m k", "3 j n", "4 k n")
	checkRoutes(t, p, "m", "n", routes("m 1 k 4 n", "m 2 j 3 n")...)
	checkRoutes(t, p, "n", "m", routes("n 3 j 2 m", "n 4 k 1 m")...)
}

// ladder is two vessels with so many valves from the first one to a joint, so many from there to the other one, and so many straight on.
func ladder(first, second, straight int) impl.Plant {
	var valves []string
	for i := range first {
		valves = append(valves, "f"+strconv.Itoa(10+i)+" a j")
	}
	for i := range second {
		valves = append(valves, "g"+strconv.Itoa(10+i)+" j b")
	}
	for i := range straight {
		valves = append(valves, "h"+strconv.Itoa(10+i)+" a b")
	}
	return laid("a b", "j", valves...)
}

func TestAsManyRoutesAsAreTold(t *testing.T) {
	for _, c := range []struct{ first, second, straight, want int }{{5, 6, 0, 30}, {6, 5, 0, 30}, {4, 7, 1, 29}, {4, 7, 2, 30}, {4, 7, 3, 30}, {5, 6, 1, 30}, {9, 9, 0, 30}, {8, 8, 2, 30}, {2, 15, 1, 30}, {1, 17, 0, 17}, {0, 0, 18, 18}, {7, 0, 11, 11}} {
		p := ladder(c.first, c.second, c.straight)
		got, back := impl.PlantRoutes(p, "a", "b"), impl.PlantRoutes(p, "b", "a")
		if len(got) != c.want || len(back) != c.want {
			t.Errorf("%+v: %d routes and %d back", c, len(got), len(back))
		}
		checkRoutes(t, p, "a", "b", routesByDefinition(p, "a", "b")...)
		checkRoutes(t, p, "b", "a", routesByDefinition(p, "b", "a")...)
	}
	got := impl.PlantRoutes(ladder(5, 6, 1), "a", "b")
	if !sameRoute(got[0], route("a h10 b")) || !sameRoute(got[29], route("a f14 j g14 b")) {
		t.Errorf("the first of 31 is %v, the last that is told %v", got[0], got[29])
	}
	got = impl.PlantRoutes(ladder(5, 6, 0), "a", "b")
	if !sameRoute(got[29], route("a f14 j g15 b")) {
		t.Errorf("the last of 30 is %v", got[29])
	}
}

// withDetour is a ladder with one route of three valves more.
func withDetour(p impl.Plant) impl.Plant {
	text := impl.PlantPrint(p) + "joint k e\njoint m e\nvalve d1 a k w\nvalve d2 k m w\nvalve d3 m b w\n"
	more, _ := impl.PlantParse(text)
	return more
}

func TestTheLastRouteThatIsToldIsALongOne(t *testing.T) {
	for _, c := range []struct{ first, second, straight, want int }{{4, 7, 0, 29}, {4, 7, 1, 30}, {4, 7, 2, 30}} {
		p := withDetour(ladder(c.first, c.second, c.straight))
		got := impl.PlantRoutes(p, "a", "b")
		told := sameRoute(got[len(got)-1], route("a d1 k d2 m d3 b"))
		if len(got) != c.want || told != (c.straight < 2) {
			t.Errorf("%+v: %d routes, the last one %v", c, len(got), got[len(got)-1])
		}
	}
}

// chain is a line of places with three valves between each two of them.
func chain() impl.Plant {
	var valves []string
	places := []string{"a", "j1", "j2", "j3", "j4", "j5", "z"}
	for i := range 18 {
		valves = append(valves, "v"+strconv.Itoa(10+i)+" "+places[i/3]+" "+places[i/3+1])
	}
	return laid("a z", "j1 j2 j3 j4 j5", valves...)
}

func TestRoutesOfManyWays(t *testing.T) {
	p := chain()
	checkRoutes(t, p, "a", "z", routesByDefinition(p, "a", "z")...)
	checkRoutes(t, p, "z", "a", routesByDefinition(p, "z", "a")...)
	if len(impl.PlantRoutes(p, "a", "z")) != impl.PlantMaxRoutes {
		t.Error("routes of the chain")
	}
	dead := laid("a z", "j1 j2 j3 j4 j5", strings.Split("v10 a j1,v11 a j1,v12 a j1,v13 j1 j2,v14 j1 j2,v15 j1 j2,v16 j2 j3,v17 j2 j3,v18 j2 j3,v19 j3 j4,v20 j3 j4,v21 j3 j4,v22 j4 j5,v23 j4 j5,v24 j4 j5", ",")...)
	checkRoutes(t, dead, "a", "z")
	long := fullPlant()
	for i := range long.Places {
		long.Places[i].Cap = 0
	}
	long.Places[0].Cap, long.Places[13].Cap = 1, impl.PlantMaxCap
	got := impl.PlantRoutes(long, "p10", "p23")
	if len(got) != impl.PlantMaxRoutes || !slices.Equal(got[0].Places, namesOfPlaces(long)) {
		t.Errorf("%d routes through all places, the first %v", len(got), got[0])
	}
	checkRoutes(t, long, "p10", "p23", routesByDefinition(long, "p10", "p23")...)
	checkRoutes(t, long, "p23", "p10", routesByDefinition(long, "p23", "p10")...)
}

// routeByDefinition says of places and valves, whatever they are, whether they are a route of a valid plant.
func routeByDefinition(p impl.Plant, r impl.PlantRoute) bool {
	caps, times := map[string]int{}, map[string]int{}
	for _, x := range p.Places {
		caps[x.Name] = x.Cap
	}
	ends := map[string][2]string{}
	for _, v := range p.Valves {
		ends[v.Name] = [2]string{v.A, v.B}
	}
	for i, place := range r.Places {
		most, ok := caps[place]
		atEnd := i == 0 || i == len(r.Places)-1
		if times[place]++; !ok || atEnd != (most > 0) || times[place] > 1 {
			return false
		}
	}
	for i, valve := range r.Valves {
		two, ok := ends[valve]
		if !ok || i+1 >= len(r.Places) || two != [2]string{min(r.Places[i], r.Places[i+1]), max(r.Places[i], r.Places[i+1])} {
			return false
		}
	}
	return len(r.Places) >= 2 && len(r.Valves) == len(r.Places)-1
}

// routesByDefinition makes each line of valves longer by each valve of the plant as long as the places allow, takes those that are routes, and puts them in order.
func routesByDefinition(p impl.Plant, from, to string) []impl.PlantRoute {
	var all []impl.PlantRoute
	var walk func(r impl.PlantRoute)
	walk = func(r impl.PlantRoute) {
		at := r.Places[len(r.Places)-1]
		if at == to && routeByDefinition(p, r) {
			all = append(all, impl.PlantRoute{Places: slices.Clone(r.Places), Valves: slices.Clone(r.Valves)})
		}
		for _, v := range slices.Backward(p.Valves) {
			for _, c := range [][2]string{{v.A, v.B}, {v.B, v.A}} {
				if c[0] == at && !slices.Contains(r.Places, c[1]) {
					walk(impl.PlantRoute{Places: append(slices.Clone(r.Places), c[1]), Valves: append(slices.Clone(r.Valves), v.Name)})
				}
			}
		}
	}
	walk(impl.PlantRoute{Places: []string{from}})
	slices.SortFunc(all, func(a, b impl.PlantRoute) int {
		return cmp.Or(cmp.Compare(len(a.Valves), len(b.Valves)), slices.Compare(a.Valves, b.Valves))
	})
	return all[:min(len(all), impl.PlantMaxRoutes)]
}

// Promise 7.
func TestRoutesAreAllThatThereAre(t *testing.T) {
	full := pairedPlant()
	for kinds := range 1 << len(full.Places) {
		p := cloned(full)
		for i := range p.Places {
			p.Places[i].Cap = kinds >> i & 1 * (i + 1)
		}
		for bits := kinds % 8; bits < 1<<len(full.Valves); bits += 8 {
			p.Valves = pick(full.Valves, bits)
			for _, c := range [][2]string{{"a", "b"}, {"b", "a"}, {"m", "j"}, {"k", "b"}, {"a", "a"}} {
				checkRoutes(t, p, c[0], c[1], routesByDefinition(p, c[0], c[1])...)
			}
		}
	}
}

func turnedBack(r impl.PlantRoute) impl.PlantRoute {
	back := impl.PlantRoute{Places: slices.Clone(r.Places), Valves: slices.Clone(r.Valves)}
	slices.Reverse(back.Places)
	slices.Reverse(back.Valves)
	return back
}

// Promise 7.
func TestRoutesAreRoutesAndAsManyBack(t *testing.T) {
	plants := []impl.Plant{mesh(), pairedPlant(), chain(), ladder(3, 4, 2), ladder(9, 9, 0), smallPlant(), fullPlant()}
	for _, p := range plants {
		for _, from := range namesOfPlaces(p) {
			for _, to := range namesOfPlaces(p) {
				there, back := impl.PlantRoutes(p, from, to), impl.PlantRoutes(p, to, from)
				if len(there) != len(back) {
					t.Errorf("%d routes from %q to %q, %d back", len(there), from, to, len(back))
				}
				for i, r := range there {
					if !routeByDefinition(p, r) || r.Places[0] != from || r.Places[len(r.Places)-1] != to {
						t.Errorf("%v is no route from %q to %q", r, from, to)
					}
					if i > 0 && cmp.Or(cmp.Compare(len(there[i-1].Valves), len(r.Valves)), slices.Compare(there[i-1].Valves, r.Valves)) >= 0 {
						t.Errorf("%v comes behind %v", r, there[i-1])
					}
					if len(there) < impl.PlantMaxRoutes && !slices.ContainsFunc(back, func(x impl.PlantRoute) bool { return sameRoute(x, turnedBack(r)) }) {
						t.Errorf("%v is not told back", r)
					}
				}
			}
		}
	}
}

func checkGuards(t *testing.T, p impl.Plant, r impl.PlantRoute, want ...string) {
	t.Helper()
	if got := impl.PlantGuards(p, r); !slices.Equal(got, want) {
		t.Errorf("PlantGuards of %v = %q; want %q", r, got, want)
	}
}

func checkAlone(t *testing.T, p impl.Plant, open []string, r impl.PlantRoute, want bool) {
	t.Helper()
	if got := impl.PlantAlone(p, open, r); got != want {
		t.Errorf("PlantAlone with %q of %v = %v; want %v", open, r, got, want)
	}
}

func TestGuardsOfRoutes(t *testing.T) {
	p := mesh()
	checkGuards(t, p, route("a v1 j v2 b"), "v3", "v4", "v6")
	checkGuards(t, p, route("a v6 j v2 b"), "v1", "v3", "v4")
	checkGuards(t, p, route("b v2 j v1 a"), "v3", "v4", "v6")
	checkGuards(t, p, route("a v1 j v3 k v4 b"), "v2", "v5", "v6")
	checkGuards(t, p, route("c v5 k v4 b"), "v2", "v3")
	checkGuards(t, laid("a b", "", "v a b"), route("a v b"))
	checkGuards(t, laid("a b", "", "v a b", "x a b"), route("a x b"), "v")
	checkGuards(t, laid("a b c d", "j", "v a b", "x c d", "y c j"), route("a v b"))
	p = chain()
	r := impl.PlantRoutes(p, "a", "z")[0]
	checkGuards(t, p, r, slices.DeleteFunc(namesOfValves(p), func(name string) bool { return slices.Contains(r.Valves, name) })...)
}

// noRoutes is what is no route of the mesh, each by one thing.
func noRoutes() map[string]impl.PlantRoute {
	return map[string]impl.PlantRoute{
		"nothing":                  {},
		"one place":                route("a"),
		"one place and a valve":    route("a v1"),
		"no places":                {Valves: []string{"v1"}},
		"the same place twice":     route("a v1 a"),
		"there and back":           route("a v1 j v6 a"),
		"a joint twice":            route("a v1 j v3 k v3 j v2 b"),
		"an inner vessel":          route("c v5 k v4 b v2 j v1 a"),
		"a joint at the end":       route("a v1 j"),
		"a joint at the beginning": route("j v2 b"),
		"joints at both ends":      route("j v3 k"),
		"joints at both ends, on":  route("j v2 b v4 k"),
		"a valve from elsewhere":   route("a v3 j v2 b"),
		"a valve of one end":       route("a v1 j v1 b"),
		"a valve of the other end": route("a v2 j v2 b"),
		"valves the other way":     route("a v2 j v1 b"),
		"no valve between":         route("a v1 b"),
		"no valve at all":          {Places: []string{"a", "b"}},
		"a valve behind the end":   route("a v1 j v3 k v4 b v5"),
		"too few valves":           {Places: []string{"a", "j", "b"}, Valves: []string{"v1"}},
		"too many valves":          {Places: []string{"a", "j", "b"}, Valves: []string{"v1", "v2", "v3"}},
		"as many as places":        {Places: []string{"a", "j", "b"}, Valves: []string{"v1", "v2", "v2"}},
		"very long":                {Places: slices.Repeat([]string{"a", "j"}, 100000), Valves: slices.Repeat([]string{"v1", "v6"}, 100000)[1:]},
	}
}

func TestWhatIsNoRoute(t *testing.T) {
	p := mesh()
	all := noRoutes()
	for _, text := range noNames() {
		all["first "+text] = impl.PlantRoute{Places: []string{text, "j", "b"}, Valves: []string{"v1", "v2"}}
		all["inner "+text] = impl.PlantRoute{Places: []string{"a", text, "b"}, Valves: []string{"v1", "v2"}}
		all["last "+text] = impl.PlantRoute{Places: []string{"a", "j", text}, Valves: []string{"v1", "v2"}}
		all["valve "+text] = impl.PlantRoute{Places: []string{"a", "j", "b"}, Valves: []string{"v1", text}}
		all["valve ahead "+text] = impl.PlantRoute{Places: []string{"a", "j", "b"}, Valves: []string{text, "v2"}}
	}
	for what, r := range all {
		if got := impl.PlantGuards(p, r); len(got) != 0 {
			t.Errorf("%s: PlantGuards = %q", what, got)
		}
		for _, open := range [][]string{nil, namesOfValves(p), r.Valves, {"v1", "v2"}} {
			if impl.PlantAlone(p, open, r) {
				t.Errorf("%s: PlantAlone with %q", what, open)
			}
		}
	}
}

// eachList tells all lists of at most so many of some texts.
func eachList(texts []string, most int, tell func(list []string)) {
	eachLine(texts, most, func(line string) { tell(strings.Fields(line)) })
}

func TestGuardsOfAllShortLists(t *testing.T) {
	p := laid("a b", "j k", "v a j", "w j b", "x j k", "y k b", "z a b")
	found := 0
	eachList([]string{"a ", "b ", "j ", "k ", "none "}, 4, func(places []string) {
		eachList([]string{"v ", "w ", "x ", "y ", "z "}, 3, func(valves []string) {
			r := impl.PlantRoute{Places: places, Valves: valves}
			var want []string
			ok := routeByDefinition(p, r)
			for _, v := range p.Valves {
				if ok && !slices.Contains(valves, v.Name) && (slices.Contains(places, v.A) || slices.Contains(places, v.B)) {
					want = append(want, v.Name)
				}
			}
			checkGuards(t, p, r, want...)
			checkAlone(t, p, valves, r, ok)
			if ok {
				found++
			}
		})
	})
	if want := 2 * len(impl.PlantRoutes(p, "a", "b")); found != want {
		t.Errorf("%d lists are routes; want %d", found, want)
	}
}

func TestRoutesThatAreAlone(t *testing.T) {
	p := mesh()
	r := route("a v1 j v2 b")
	for _, open := range [][]string{{"v1", "v2"}, {"v2", "v1"}, {"v2", "v2", "v1", "v1"}, {"none", "v1", "", "v2"}, {"v1", "v2", "v5"}, {"v1", "v2", "v6"}, {"v5", "v6", "v2", "v1"}} {
		checkAlone(t, p, open, r, true)
	}
	for _, open := range [][]string{nil, {}, {"v1"}, {"v2"}, {"v6", "v2"}, {"v1", "v1"}, {"v1", "V2", "v2 ", ""}, {"v1", "v2", "v3"}, {"v1", "v2", "v4"}, {"v3", "v4", "v1", "v2"}, namesOfValves(p), noNames()} {
		checkAlone(t, p, open, r, false)
	}
	long := route("a v1 j v3 k v4 b")
	checkAlone(t, p, []string{"v1", "v3", "v4"}, long, true)
	checkAlone(t, p, []string{"v1", "v3", "v4", "v2", "v6"}, long, true)
	checkAlone(t, p, []string{"v1", "v3", "v4", "v5"}, long, false)
	checkAlone(t, p, []string{"v1", "v4"}, long, false)
	// Both ends may be joined by another way, and the route's own valve is shut all the same.
	checkAlone(t, p, []string{"v6", "v3", "v4", "v2"}, long, false)
	checkAlone(t, laid("a b c", "", "v a b", "x b c"), []string{"v"}, route("a v b"), true)
	checkAlone(t, laid("a b c", "", "v a b", "x b c"), []string{"v", "x"}, route("a v b"), false)
}

// allRoutes is the routes between any two vessels.
func allRoutes(p impl.Plant) []impl.PlantRoute {
	var all []impl.PlantRoute
	for _, from := range namesOfPlaces(p) {
		for _, to := range namesOfPlaces(p) {
			all = append(all, impl.PlantRoutes(p, from, to)...)
		}
	}
	return all
}

// onRoute says of a valve whether both its ends are on a route.
func onRoute(p impl.Plant, r impl.PlantRoute, valve string) bool {
	return slices.ContainsFunc(p.Valves, func(v impl.PlantValve) bool {
		return v.Name == valve && slices.Contains(r.Places, v.A) && slices.Contains(r.Places, v.B)
	})
}

// Promise 6.
func TestRoutesAreAloneBehindTheirGuards(t *testing.T) {
	for _, p := range []impl.Plant{mesh(), smallPlant(), pairedPlant(), ladder(3, 3, 1), laid("a b c d", "j k", "v1 a j", "v2 b j", "v3 j k", "v4 c k", "v5 d k", "v6 c d", "v7 a b", "v8 c d")} {
		for _, r := range allRoutes(p) {
			guards := impl.PlantGuards(p, r)
			others := slices.DeleteFunc(namesOfValves(p), func(name string) bool {
				return slices.Contains(guards, name) || slices.Contains(r.Valves, name)
			})
			for bits := range 1 << len(others) {
				open := append([]string{"none"}, append(pick(others, bits), r.Valves...)...)
				checkAlone(t, p, open, r, true)
				for _, guard := range guards {
					checkAlone(t, p, append(slices.Clone(open), guard), r, onRoute(p, r, guard))
				}
				for i := range r.Valves {
					checkAlone(t, p, append(pick(others, bits), slices.Delete(slices.Clone(r.Valves), i, i+1)...), r, false)
				}
			}
		}
	}
}

func TestAloneByDefinition(t *testing.T) {
	p := pairedPlant()
	all := allRoutes(p)
	for bits := range 1 << len(p.Valves) {
		open := pick(namesOfValves(p), bits)
		joined := joinedByDefinition(p, open)
		for _, r := range all {
			want := true
			for _, valve := range r.Valves {
				want = want && slices.Contains(open, valve)
			}
			for _, x := range p.Places {
				want = want && joined[[2]string{r.Places[0], x.Name}] == slices.Contains(r.Places, x.Name)
			}
			checkAlone(t, p, open, r, want)
		}
	}
}

func TestRoutesOfPlantsThatAreNotValid(t *testing.T) {
	for _, p := range notValid() {
		for _, c := range [][2]string{{"keg", "tun"}, {"tun", "keg"}, {"p11", "p12"}, {"j", "keg"}, {"", ""}} {
			checkRoutes(t, p, c[0], c[1])
		}
		for _, r := range routes("keg c tun", "tun b j a keg", "p11 v11 p12", "") {
			checkGuards(t, p, r)
			checkAlone(t, p, []string{"a", "b", "v11"}, r, false)
			checkAlone(t, p, []string{"c"}, r, false)
		}
	}
	for _, r := range routes("keg c tun", "tun b j a keg", "") {
		checkGuards(t, impl.Plant{}, r)
		checkAlone(t, impl.Plant{}, r.Valves, r, false)
	}
}

func TestRoutesAreNewMemory(t *testing.T) {
	p := pairedPlant()
	from, to := strings.Clone("a"), strings.Clone("b")
	all := impl.PlantRoutes(p, from, to)
	checkOwnMemory(t, "PlantRoutes", all, p, from, to)
	guards := impl.PlantGuards(p, all[0])
	checkOwnMemory(t, "PlantGuards", guards, p, all[0])
	spoilTexts(guards)
	var lists [][]string
	for _, r := range all {
		lists = append(lists, r.Places, r.Valves)
	}
	for i, list := range lists {
		others := slices.Clone(lists[i+1:])
		for j := range others {
			others[j] = slices.Clone(others[j])
		}
		spoilTexts(list)
		if !reflect.DeepEqual(others, slices.Clone(lists[i+1:])) {
			t.Fatalf("list %d of the answer shares with another one", i)
		}
	}
	if !samePlant(p, pairedPlant()) {
		t.Errorf("the plant became %v", p)
	}
	checkRoutes(t, p, "a", "b", routesByDefinition(p, "a", "b")...)
}

func TestRoutesLeaveTheirArguments(t *testing.T) {
	for _, from := range append(spoilt(), smallPlant(), pairedPlant(), chain()) {
		p := roomyPlant(from)
		open := roomy(namesOfValves(p), "behind")
		list := append(allRoutes(p), routes("keg c tun", "j", "tun a keg", "keg b j a tun")...)
		for i, r := range list {
			list[i] = impl.PlantRoute{Places: roomy(r.Places, "behind"), Valves: roomy(r.Valves, "behind")}
		}
		want, wantOpen := cloned(toTheEnd(p)), slices.Clone(open[:cap(open)])
		for _, r := range list {
			places, valves := slices.Clone(r.Places[:cap(r.Places)]), slices.Clone(r.Valves[:cap(r.Valves)])
			for range 2 {
				impl.PlantRoutes(p, r.Places[0], r.Places[len(r.Places)-1])
				impl.PlantGuards(p, r)
				impl.PlantAlone(p, open, r)
			}
			if !slices.Equal(r.Places[:cap(r.Places)], places) || !slices.Equal(r.Valves[:cap(r.Valves)], valves) {
				t.Errorf("a route became %v", r)
			}
		}
		if !reflect.DeepEqual(toTheEnd(p), want) || !slices.Equal(open[:cap(open)], wantOpen) {
			t.Errorf("the arguments became %+v, %q", toTheEnd(p), open[:cap(open)])
		}
	}
}

// What one call was given must not be seen in the next one.
func TestRoutesKeepNothing(t *testing.T) {
	p, q := mesh(), smallPlant()
	for range 3 {
		checkRoutes(t, p, "c", "b", routes("c v5 k v4 b", "c v5 k v3 j v2 b")...)
		checkRoutes(t, q, "keg", "tun", routes("keg c tun", "keg a j b tun")...)
		checkGuards(t, p, route("c v5 k v4 b"), "v2", "v3")
		checkGuards(t, q, route("keg c tun"), "a", "b")
		checkAlone(t, p, []string{"v4", "v5"}, route("c v5 k v4 b"), true)
		checkAlone(t, q, []string{"v4", "v5"}, route("c v5 k v4 b"), false)
	}
}
