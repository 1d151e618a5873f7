package tests

import (
	"fmt"
	"maps"
	"math"
	"math/rand"
	"reflect"
	"slices"
	"strconv"
	"strings"
	"sync"
	"testing"

	"loop.example/malthouse/impl"
)

func sameMaster(a, b impl.CtlMaster) bool {
	return reflect.DeepEqual(copied(a), copied(b))
}

func checkMove(t *testing.T, what string, p impl.Plant, m impl.CtlMaster, r impl.PlantRoute, amount int, want impl.CtlMaster, code int) {
	t.Helper()
	if after, is := impl.CtlMove(p, m, r, amount); is != code || !sameMaster(after, want) {
		t.Errorf("%s: CtlMove of %v and %d = %+v, %d; want %+v, %d: %+v in %+v", what, r, amount, after, is, want, code, m, p)
	}
}

func checkPlace(t *testing.T, what string, p impl.Plant, m impl.CtlMaster, kind int, list []string, want impl.CtlMaster, code int) {
	t.Helper()
	if after, is := impl.CtlPlace(p, m, kind, list); is != code || !sameMaster(after, want) {
		t.Errorf("%s: CtlPlace of %d and %q = %+v, %d; want %+v, %d: %+v in %+v", what, kind, list, after, is, want, code, m, p)
	}
}

func checkHalt(t *testing.T, what string, p impl.Plant, m impl.CtlMaster, number int, want impl.CtlMaster, code int) {
	t.Helper()
	if after, is := impl.CtlHalt(p, m, number); is != code || !sameMaster(after, want) {
		t.Errorf("%s: CtlHalt of %d = %+v, %d; want %+v, %d: %+v in %+v", what, number, after, is, want, code, m, p)
	}
}

func checkSay(t *testing.T, what string, p impl.Plant, m impl.CtlMaster, want ...impl.CtlWord) {
	t.Helper()
	if got := impl.CtlSay(p, m); !reflect.DeepEqual(copied(got), copied(want)) {
		t.Errorf("%s: CtlSay = %+v; want %+v: %+v in %+v", what, got, want, m, p)
	}
}

func checkTell(t *testing.T, what string, p impl.Plant, m impl.CtlMaster, w impl.CtlWord, want impl.CtlMaster) {
	t.Helper()
	if got := impl.CtlTell(p, m, w); !sameMaster(got, want) {
		t.Errorf("%s: CtlTell of %+v = %+v; want %+v: %+v in %+v", what, w, got, want, m, p)
	}
}

// checkNoMove asks for a code with which the book stays, or is nothing.
func checkNoMove(t *testing.T, what string, p impl.Plant, m impl.CtlMaster, r impl.PlantRoute, amount int, code int) {
	t.Helper()
	checkMove(t, what, p, m, r, amount, choose(code == 1, impl.CtlMaster{}, m), code)
}

func checkNoPlace(t *testing.T, what string, p impl.Plant, m impl.CtlMaster, kind int, list []string, code int) {
	t.Helper()
	checkPlace(t, what, p, m, kind, list, choose(code == 1, impl.CtlMaster{}, m), code)
}

func checkNoHalt(t *testing.T, what string, p impl.Plant, m impl.CtlMaster, number int, code int) {
	t.Helper()
	checkHalt(t, what, p, m, number, choose(code == 1, impl.CtlMaster{}, m), code)
}

// said is a word of a station, or, where that is empty, of or to who works.
func said(kind int, station string, number, moved int) impl.CtlWord {
	return impl.CtlWord{Kind: kind, Station: station, Number: number, Moved: moved}
}

// changed is a book of which one thing is another one.
func changed(m impl.CtlMaster, change func(m *impl.CtlMaster)) impl.CtlMaster {
	m = copied(m)
	change(&m)
	return m
}

func TestMovesThatBegin(t *testing.T) {
	p := house()
	m := impl.CtlMaster{Last: 6, Left: leftIn(p, "tun:ale,water j:lye keg:water barn:lye vat:ale")}
	checkMove(t, "of two places", p, m, route("tun f keg"), 5, impl.CtlMaster{Last: 7, Left: leftIn(p, "tun:ale,water j:lye keg:ale,water barn:lye vat:ale"), Jobs: []impl.CtlJob{moveJob(7, "tun f keg", "ale water", 5)}}, 0)
	checkMove(t, "of two places, back", p, m, route("keg f tun"), 1, impl.CtlMaster{Last: 7, Left: leftIn(p, "tun:ale,water j:lye keg:water barn:lye vat:ale"), Jobs: []impl.CtlJob{moveJob(7, "keg f tun", "water", 1)}}, 0)
	checkMove(t, "through joints", p, m, alongHouse(), 1000, impl.CtlMaster{Last: 7, Left: leftIn(p, "tun:ale,water j:ale,lye,water k:ale,lye,water keg:ale,lye,water barn:lye vat:ale"), Jobs: []impl.CtlJob{moveJob(7, "tun a j b k c keg", "ale lye water", 1000)}}, 0)
	checkMove(t, "through joints, back", p, m, turnedBack(alongHouse()), 2, impl.CtlMaster{Last: 7, Left: leftIn(p, "tun:ale,lye,water j:lye,water k:lye,water keg:water barn:lye vat:ale"), Jobs: []impl.CtlJob{moveJob(7, "keg c k b j a tun", "lye water", 2)}}, 0)
	checkMove(t, "by what is left in a joint alone", p, m, route("barn"), 2, m, 2)
	m.Left = leftIn(p, "j:lye vat:ale")
	checkMove(t, "by what is left in a joint alone", p, m, route("tun a j d vat"), 2, impl.CtlMaster{Last: 7, Left: leftIn(p, "j:lye vat:ale,lye"), Jobs: []impl.CtlJob{moveJob(7, "tun a j d vat", "lye", 2)}}, 0)
	m.Left = leftIn(p, "k:water")
	checkMove(t, "by what is left in the last joint alone", p, m, alongHouse(), 2, impl.CtlMaster{Last: 7, Left: leftIn(p, "j:water k:water keg:water"), Jobs: []impl.CtlJob{moveJob(7, "tun a j b k c keg", "water", 2)}}, 0)
}

// What is begun comes behind all others, which stay as they are.
func TestMovesThatBeginBehindOthers(t *testing.T) {
	p := house()
	m := busyHouse()
	m.Jobs = m.Jobs[1:]
	for _, last := range []int{12, 13, 500, 999999} {
		m.Last = last
		want := copied(m)
		want.Last, want.Left = last+1, leftIn(p, "tun:ale,water keg:ale,lye,water j:water barn:lye m:ale")
		want.Jobs = append(want.Jobs, moveJob(last+1, "tun f keg", "ale water", 5))
		checkMove(t, "behind others", p, m, route("tun f keg"), 5, want, 0)
		checkMaster(t, "behind others", p, want, true)
	}
	m = ofHouse()
	m.Last = 0
	checkMove(t, "the first of all", p, m, route("tun f keg"), 5, impl.CtlMaster{Last: 1, Left: leftIn(p, "tun:ale,water keg:ale,water"), Jobs: []impl.CtlJob{moveJob(1, "tun f keg", "ale water", 5)}}, 0)
}

func TestPlacesThatBegin(t *testing.T) {
	p := house()
	for _, kind := range []int{impl.ClaimClean, impl.ClaimPermit} {
		for _, list := range []string{"barn", "j", "j k", "m vat", "barn j k keg m tun vat"} {
			for _, last := range []int{0, 6, 999999} {
				m := impl.CtlMaster{Last: last, Left: leftIn(p, "tun:ale,water j:lye keg:water barn:lye")}
				want := impl.CtlMaster{Last: last + 1, Left: m.Left, Jobs: []impl.CtlJob{stillJob(last+1, kind, list)}}
				checkPlace(t, list, p, m, kind, strings.Fields(list), want, 0)
				checkMaster(t, list, p, want, true)
			}
		}
		m := busyHouse()
		m.Jobs = slices.Delete(m.Jobs, 1, 2)
		want := copied(m)
		want.Last, want.Jobs = 13, append(want.Jobs, stillJob(13, kind, "k"))
		checkPlace(t, "behind others", p, m, kind, []string{"k"}, want, 0)
	}
}

func TestRulesOfMastersThatAreNotOk(t *testing.T) {
	all := spoiltMasters()
	for _, r := range longMasters() {
		all = append(all, r)
	}
	for i, p := range notValid() {
		if i%3 == 0 {
			all = append(all, ruled{p, impl.CtlMaster{Left: leftIn(p, "")}})
		}
	}
	for i, r := range all {
		what := strconv.Itoa(i)
		checkMaster(t, what, r.Plant, r.Master, false)
		checkNoMove(t, what, r.Plant, r.Master, route("tun f keg"), 5, 1)
		checkNoMove(t, what, r.Plant, r.Master, impl.PlantRoute{}, 0, 1)
		for kind := range 5 {
			checkNoPlace(t, what, r.Plant, r.Master, kind, []string{"k"}, 1)
		}
		for _, number := range []int{0, 3, 4, 9, 12, 13} {
			checkNoHalt(t, what, r.Plant, r.Master, number, 1)
			for kind := range 12 {
				checkTell(t, what, r.Plant, r.Master, said(kind, choose(kind < 9, "guard", ""), number, 0), impl.CtlMaster{})
			}
		}
		checkSay(t, what, r.Plant, r.Master)
	}
}

func TestMovesOfNoRouteOrAmount(t *testing.T) {
	p := mesh()
	p.Stuffs = []string{"ale"}
	m := impl.CtlMaster{Left: leftIn(p, "a:ale b:ale c:ale j:ale k:ale")}
	for what, r := range noRoutes() {
		checkNoMove(t, what, p, m, r, 1, 2)
	}
	checkMove(t, "a route", p, m, route("a v1 j v2 b"), 1, impl.CtlMaster{Last: 1, Left: m.Left, Jobs: []impl.CtlJob{moveJob(1, "a v1 j v2 b", "ale", 1)}}, 0)
	h := ofHouse()
	for _, amount := range []int{math.MinInt, -1, 0, 1, 40, 999, 1000, 1001, 1 << 32, math.MaxInt} {
		if amount < 1 || amount > impl.ClaimMaxCap {
			checkNoMove(t, "an amount", house(), h, route("tun f keg"), amount, 2)
			continue
		}
		want := impl.CtlMaster{Last: 1, Left: leftIn(house(), "tun:ale,water keg:ale,water"), Jobs: []impl.CtlJob{moveJob(1, "tun f keg", "ale water", amount)}}
		checkMove(t, "an amount", house(), h, route("tun f keg"), amount, want, 0)
	}
	checkNoMove(t, "nothing in nothing", impl.Plant{}, impl.CtlMaster{}, impl.PlantRoute{}, 1, 2)
}

func TestPlacesOfNoKindOrPlace(t *testing.T) {
	p := house()
	for kind := range someKinds() {
		if kind != impl.ClaimClean && kind != impl.ClaimPermit {
			checkNoPlace(t, "a kind", p, ofHouse(), kind, []string{"j"}, 2)
		}
	}
	for _, kind := range []int{impl.ClaimClean, impl.ClaimPermit} {
		for _, text := range []string{"", "k j", "j j", "none", "j none", "a", "west", "ale", "j keg k"} {
			checkNoPlace(t, text, p, ofHouse(), kind, strings.Fields(text), 2)
		}
		for _, text := range noNames() {
			checkNoPlace(t, text, p, ofHouse(), kind, []string{text}, 2)
		}
		checkNoPlace(t, "very many", p, ofHouse(), kind, numbered("s", 20000), 2)
		checkNoPlace(t, "of nothing", impl.Plant{}, impl.CtlMaster{}, kind, nil, 2)
		q := fullPlant()
		for many := range 15 {
			// In the places from the last one back there are few enough valves.
			list := namesOfPlaces(q)[14-many:]
			m := impl.CtlMaster{Left: leftIn(q, "")}
			if many < 1 || many > 8 {
				checkNoPlace(t, "so many", q, m, kind, list, 2)
				continue
			}
			checkPlace(t, "so many", q, m, kind, list, impl.CtlMaster{Last: 1, Left: m.Left, Jobs: []impl.CtlJob{stillJob(1, kind, strings.Join(list, " "))}}, 0)
		}
	}
}

func TestMovesOfNothing(t *testing.T) {
	p := house()
	m := ofHouse()
	for _, text := range []string{"", "keg:ale", "keg:ale,lye,water", "keg:ale vat:lye barn:lye m:ale"} {
		m.Left = leftIn(p, text)
		checkNoMove(t, text, p, m, route("tun f keg"), 5, 5)
		checkNoMove(t, text, p, m, alongHouse(), 5, 5)
	}
	m.Left = leftIn(p, "j:ale k:lye keg:ale")
	checkNoMove(t, "beside the way", p, m, route("tun f keg"), 5, 5)
}

func TestAsManyJobsAsThereCanBe(t *testing.T) {
	p := house()
	m := ofHouse(stillJob(1, impl.ClaimPermit, "barn"), stillJob(2, impl.ClaimPermit, "j"), stillJob(3, impl.ClaimPermit, "k"), stillJob(4, impl.ClaimPermit, "m"))
	for many := range 5 {
		for _, last := range []int{4, 999998, 999999, 1000000} {
			n := copied(m)
			n.Jobs, n.Last = n.Jobs[:many], last
			code := choose(many == 4 || last == impl.ClaimMaxNumber, 4, 0)
			if _, is := impl.CtlMove(p, n, route("tun f keg"), 5); is != code {
				t.Errorf("%d jobs, the last %d: %d", many, last, is)
			}
			if _, is := impl.CtlPlace(p, n, impl.ClaimClean, []string{"vat"}); is != code {
				t.Errorf("%d jobs, the last %d: %d", many, last, is)
			}
			if code != 0 {
				checkNoMove(t, "too many", p, n, route("tun f keg"), 5, 4)
				checkNoPlace(t, "too many", p, n, impl.ClaimPermit, []string{"vat"}, 4)
			}
		}
	}
}

func TestPlacesThatAJobUses(t *testing.T) {
	p := house()
	var others []impl.CtlJob
	for _, place := range namesOfPlaces(p) {
		others = append(others, stillJob(5, impl.ClaimClean, place), stillJob(5, impl.ClaimPermit, place))
	}
	for _, way := range []string{"tun f keg", "keg c k b j a tun", "tun a j d vat"} {
		others = append(others, moveJob(5, way, "ale", 3))
	}
	moved, placed := map[int]int{}, map[int]int{}
	for _, other := range others {
		for _, state := range allStates() {
			used := slices.Concat(other.Places, other.Route.Places)
			isUsed := func(place string) bool { return slices.Contains(used, place) }
			m := ofHouse(in(state, "", 0, other))
			m.Left = leftIn(p, "tun:ale keg:ale vat:ale")
			for _, r := range append(routes("tun f keg", "keg e vat", "vat d j b k c keg"), alongHouse()) {
				_, code := impl.CtlMove(p, m, r, 1)
				if want := choose(slices.ContainsFunc(r.Places, isUsed), 6, 0); code != want {
					t.Errorf("CtlMove of %v beside %q: %d", r, used, code)
				}
				if code != 0 {
					checkNoMove(t, "a place is used", p, m, r, 1, 6)
				}
				moved[code]++
			}
			for _, list := range []string{"barn", "j", "k", "keg", "m", "tun", "vat", "j k", "barn vat", "keg tun", "j k keg m tun"} {
				for _, kind := range []int{impl.ClaimClean, impl.ClaimPermit} {
					_, code := impl.CtlPlace(p, m, kind, strings.Fields(list))
					if want := choose(slices.ContainsFunc(strings.Fields(list), isUsed), 6, 0); code != want {
						t.Errorf("CtlPlace of %q beside %q: %d", list, used, code)
					}
					if code != 0 {
						checkNoPlace(t, "a place is used", p, m, kind, strings.Fields(list), 6)
					}
					placed[code]++
				}
			}
		}
	}
	if moved[0] < 50 || moved[6] < 50 || placed[0] < 50 || placed[6] < 50 {
		t.Errorf("%v, %v", moved, placed)
	}
	// A place that the last one of three jobs uses is used, too.
	m := busyHouse()
	m.Jobs = m.Jobs[1:]
	checkNoPlace(t, "the last one's", p, m, impl.ClaimPermit, []string{"barn", "tun"}, 6)
	checkNoPlace(t, "the first one's", p, m, impl.ClaimPermit, []string{"k", "tun"}, 6)
}

func TestWantsThatWouldNotBeOk(t *testing.T) {
	for joints := 1; joints <= 12; joints++ {
		p := wide(joints, 0)
		m := impl.CtlMaster{Left: leftIn(p, "a:ale")}
		r := impl.PlantRoutes(p, "a", "z")[0]
		if joints > impl.ClaimMaxUses {
			checkNoMove(t, "too many places", p, m, r, 1, 2)
		} else if _, code := impl.CtlMove(p, m, r, 1); code != 0 {
			t.Errorf("%d joints: %d", joints, code)
		}
	}
	for more := range 17 {
		p := wide(1, more)
		m := impl.CtlMaster{Left: leftIn(p, "a:ale")}
		all := impl.PlantRoutes(p, "a", "z")
		want := choose(more > impl.ClaimMaxTurns, 2, 0)
		_, code := impl.CtlMove(p, m, all[len(all)-1], 1)
		_, other := impl.CtlPlace(p, m, impl.ClaimClean, []string{"a"})
		if code != want || other != want {
			t.Errorf("%d valves: %d, %d", more, code, other)
		}
		if want != 0 {
			checkNoMove(t, "too many valves", p, m, all[len(all)-1], 1, 2)
			checkNoPlace(t, "too many valves", p, m, impl.ClaimPermit, []string{"a"}, 2)
		}
	}
}

func TestBegunMovesThatMeetSeveralCodes(t *testing.T) {
	eachMetReason(strings.Fields("book amount stuffs full used wide"), []int{1, 2, 5, 4, 6, 2}, func(met map[string]bool, code int) {
		p := wide(choose(met["wide"], 9, 8), 0)
		p.Places = append(p.Places, impl.PlantPlace{Name: "z1", Station: "e"}, impl.PlantPlace{Name: "z2", Station: "e"}, impl.PlantPlace{Name: "z3", Station: "e"})
		m := impl.CtlMaster{Last: choose(met["full"], impl.ClaimMaxNumber, 999999), Left: leftIn(p, choose(met["stuffs"], "z:ale z1:ale", "z:ale a:ale"))}
		for i, place := range []string{choose(met["used"], "j13", "z1"), "z2", "z3"} {
			m.Jobs = append(m.Jobs, stillJob(i+1, impl.ClaimPermit, place))
		}
		if met["book"] {
			m.Left[0].Place = "none"
		}
		r := impl.PlantRoutes(p, "a", "z")[0]
		amount := choose(met["amount"], 0, 1)
		if code > 0 {
			checkNoMove(t, fmt.Sprint(met), p, m, r, amount, code)
		} else if _, is := impl.CtlMove(p, m, r, amount); is != 0 {
			t.Errorf("%v: %d", met, is)
		}
		// Four jobs are as good as the last number.
		if met["full"] && met["used"] {
			m.Last, m.Jobs = 999999, append(m.Jobs, stillJob(9, impl.ClaimPermit, "z1"))
			checkNoMove(t, fmt.Sprint(met), p, m, r, amount, code)
		}
		if code > 0 && !met["amount"] {
			continued := impl.PlantRoute{Places: r.Places, Valves: r.Valves[1:]}
			checkNoMove(t, "no route, "+fmt.Sprint(met), p, m, continued, amount, choose(met["book"], 1, 2))
		}
	})
}

func TestBegunPlacesThatMeetSeveralCodes(t *testing.T) {
	eachMetReason(strings.Fields("book kind places full used wide"), []int{1, 2, 2, 4, 6, 2}, func(met map[string]bool, code int) {
		p := wide(1, choose(met["wide"], 13, 12))
		p.Places = append(p.Places, impl.PlantPlace{Name: "z1", Station: "e"}, impl.PlantPlace{Name: "z2", Station: "e"}, impl.PlantPlace{Name: "z3", Station: "e"}, impl.PlantPlace{Name: "z4", Station: "e"})
		m := impl.CtlMaster{Last: 999999, Left: leftIn(p, "")}
		for i, place := range []string{choose(met["used"], "j10", "z1"), "z2", "z3", "z4"}[:choose(met["full"], 4, 3)] {
			m.Jobs = append(m.Jobs, stillJob(i+1, impl.ClaimPermit, place))
		}
		if met["book"] {
			m.Last = -1
		}
		list := []string{"a", "j10"}
		if met["places"] {
			slices.Reverse(list)
		}
		for _, kind := range []int{impl.ClaimClean, impl.ClaimPermit} {
			kind = choose(met["kind"], kind*3-5, kind)
			if code > 0 {
				checkNoPlace(t, fmt.Sprint(met), p, m, kind, list, code)
			} else if _, is := impl.CtlPlace(p, m, kind, list); is != 0 {
				t.Errorf("%v: %d", met, is)
			}
		}
	})
}

func TestJobsThatAreHalted(t *testing.T) {
	p := house()
	for what, from := range houseJobs() {
		for _, state := range allStates() {
			heard := strings.Join(askedBy(what)[1:], " ")
			j := in(state, choose(state == impl.CtlRunning, "", heard), choose(state >= 3 && from.Kind == impl.ClaimMove, 1, 0), from)
			m := ofHouse(j)
			if state >= impl.CtlHalting || state == impl.CtlRunning && from.Kind == impl.ClaimPermit {
				checkNoHalt(t, what, p, m, 7, 7)
				continue
			}
			checkHalt(t, what, p, m, 7, ofHouse(in(impl.CtlHalting, "", 0, from)), 0)
			for _, number := range []int{math.MinInt, -1, 0, 1, 6, 8, math.MaxInt} {
				checkNoHalt(t, what, p, m, number, 3)
			}
		}
	}
	m := busyHouse()
	for number, code := range map[int]int{-1: 3, 0: 3, 1: 3, 2: 3, 3: 7, 5: 3, 9: 7, 10: 3, 12: 7, 13: 3} {
		checkNoHalt(t, "busy", p, m, number, code)
	}
	checkHalt(t, "busy", p, m, 4, changed(m, func(m *impl.CtlMaster) { m.Jobs[1] = in(impl.CtlHalting, "", 0, m.Jobs[1]) }), 0)
	checkNoHalt(t, "nothing", impl.Plant{}, impl.CtlMaster{}, 0, 3)
	checkNoHalt(t, "nothing", impl.Plant{}, impl.CtlMaster{Last: 1}, 1, 3)
}

func TestWhatIsSaidInEachState(t *testing.T) {
	p := house()
	kinds := map[int]int{impl.CtlAsking: impl.CtlAsks, impl.CtlRunning: impl.CtlGoes, impl.CtlHalting: impl.CtlStops, impl.CtlEnding: impl.CtlOvers}
	for what, from := range houseJobs() {
		asks := impl.CtlJobAsks(p, from)
		for _, state := range allStates() {
			for bits := range 1<<len(asks) - 1 {
				j := from
				j.State, j.Heard = state, pick(askedBy(what), bits)
				if state == impl.CtlRunning && bits > 0 {
					continue
				}
				if state >= impl.CtlHalting && j.Kind != impl.ClaimPermit {
					j.Moved = 1
				}
				j.Done = state == impl.CtlEnding && j.Kind == impl.ClaimClean && bits%2 == 0
				var want []impl.CtlWord
				for i, a := range asks {
					if bits>>i&1 == 1 {
						continue
					}
					w := impl.CtlWord{Kind: kinds[state], Station: a.Station, Number: 7}
					switch state {
					case impl.CtlAsking:
						w.Want = a.Want
					case impl.CtlEnding:
						w.Moved, w.Done = j.Moved, j.Done
					}
					want = append(want, w)
				}
				if state == impl.CtlRunning && j.Kind == impl.ClaimPermit {
					want = append(want, impl.CtlWord{Kind: impl.CtlEnter, Number: 7})
				}
				checkSay(t, what+" in "+strconv.Itoa(state), p, ofHouse(j), want...)
			}
		}
	}
}

func TestWhatIsSaidOfSeveralJobs(t *testing.T) {
	p := house()
	clean := cleanOf
	over := said(impl.CtlOvers, "lone", 12, 1)
	over.Done = true
	asks := func(station string, w impl.ClaimWant) impl.CtlWord {
		return impl.CtlWord{Kind: impl.CtlAsks, Station: station, Number: w.Number, Want: w}
	}
	checkSay(t, "busy", p, busyHouse(),
		said(impl.CtlStops, "guard", 3, 0),
		asks("east", clean(4, "", "c")), asks("guard", clean(4, "", "d")), asks("west", clean(4, "j", "a")),
		said(impl.CtlGoes, "far", 9, 0), said(impl.CtlGoes, "guard", 9, 0), said(impl.CtlEnter, "", 9, 0),
		over)
	m := busyHouse()
	m.Jobs[2], m.Jobs[3] = m.Jobs[3], m.Jobs[2]
	checkSay(t, "out of order", p, m)
	// A permit that may be entered stands ahead of others, too.
	m = ofHouse(in(impl.CtlRunning, "", 0, stillJob(1, impl.ClaimPermit, "barn")), in(impl.CtlRunning, "", 0, stillJob(2, impl.ClaimPermit, "m")), in(impl.CtlRunning, "", 0, stillJob(3, impl.ClaimClean, "k")))
	checkSay(t, "permits", p, m, said(impl.CtlGoes, "lone", 1, 0), said(impl.CtlEnter, "", 1, 0), said(impl.CtlGoes, "far", 2, 0), said(impl.CtlEnter, "", 2, 0),
		said(impl.CtlGoes, "east", 3, 0), said(impl.CtlGoes, "mid", 3, 0), said(impl.CtlGoes, "turn", 3, 0))
	checkSay(t, "no jobs", p, ofHouse())
	checkSay(t, "nothing", impl.Plant{}, impl.CtlMaster{})
}

// told is what becomes of a book by words, one after the other.
func told(t *testing.T, p impl.Plant, m impl.CtlMaster, words ...impl.CtlWord) impl.CtlMaster {
	t.Helper()
	for _, w := range words {
		m = checkTold(t, p, m, w)
	}
	return m
}

func checkFirst(t *testing.T, what string, m impl.CtlMaster, want impl.CtlJob) {
	t.Helper()
	if len(m.Jobs) == 0 || !reflect.DeepEqual(copied(m.Jobs[0]), copied(want)) {
		t.Errorf("%s: %+v; want %+v", what, m.Jobs, want)
	}
}

func TestAMoveFromItsBeginningToItsEnd(t *testing.T) {
	p := house()
	j := houseJobs()["move"]
	m := told(t, p, ofHouse(j), said(impl.CtlGrants, "west", 7, 0))
	checkFirst(t, "one granted", m, in(impl.CtlAsking, "west", 0, j))
	m = told(t, p, m, said(impl.CtlGrants, "west", 7, 0), said(impl.CtlGrants, "turn", 7, 0), said(impl.CtlGrants, "west", 6, 0), said(impl.CtlGrants, "none", 7, 0))
	checkFirst(t, "once more, one that is not asked, another number, no station", m, in(impl.CtlAsking, "west", 0, j))
	m = told(t, p, m, said(impl.CtlGrants, "east", 7, 0))
	checkFirst(t, "two granted", m, in(impl.CtlAsking, "east west", 0, j))
	m = told(t, p, m, said(impl.CtlGrants, "guard", 7, 0))
	checkFirst(t, "all granted", m, in(impl.CtlRunning, "", 0, j))
	m = told(t, p, m, said(impl.CtlGrants, "guard", 7, 0), said(impl.CtlDenies, "guard", 7, 0), said(impl.CtlStopped, "guard", 7, 4), said(impl.CtlGone, "guard", 7, 0), said(impl.CtlSigned, "", 7, 0))
	checkFirst(t, "nothing ends it while it runs", m, in(impl.CtlRunning, "", 0, j))
	m, _ = impl.CtlHalt(p, m, 7)
	m = told(t, p, m, said(impl.CtlStopped, "guard", 7, 0), said(impl.CtlStopped, "west", 7, 4))
	checkFirst(t, "two stopped", m, in(impl.CtlHalting, "guard west", 4, j))
	m = told(t, p, m, said(impl.CtlStopped, "west", 7, 5), said(impl.CtlGone, "east", 7, 0), said(impl.CtlGrants, "east", 7, 0))
	checkFirst(t, "what was heard is not heard again", m, in(impl.CtlHalting, "guard west", 4, j))
	m = told(t, p, m, said(impl.CtlStopped, "east", 7, 3))
	checkFirst(t, "all stopped", m, in(impl.CtlEnding, "", 4, j))
	m = told(t, p, m, said(impl.CtlGone, "east", 7, 0), said(impl.CtlGone, "guard", 7, 0), said(impl.CtlGone, "guard", 7, 0), said(impl.CtlStopped, "west", 7, 5))
	checkFirst(t, "two gone", m, in(impl.CtlEnding, "east guard", 4, j))
	m = told(t, p, m, said(impl.CtlGone, "west", 7, 0))
	want := ofHouse()
	want.Last = 7
	if !sameMaster(m, want) {
		t.Errorf("behind its end %+v; want %+v", m, want)
	}
}

func TestAPermitFromItsBeginningToItsEnd(t *testing.T) {
	p := house()
	j := houseJobs()["permit"]
	m := told(t, p, ofHouse(j), said(impl.CtlSigned, "", 7, 0), said(impl.CtlGrants, "guard", 7, 0), said(impl.CtlGrants, "far", 7, 0))
	checkFirst(t, "all granted", m, in(impl.CtlRunning, "", 0, j))
	m = told(t, p, m, said(impl.CtlSigned, "", 6, 0), said(impl.CtlEnter, "", 7, 0), said(impl.CtlSigned, "far", 7, 0))
	checkFirst(t, "who works has not signed", m, in(impl.CtlRunning, "", 0, j))
	m = told(t, p, m, said(impl.CtlSigned, "", 7, 0))
	checkFirst(t, "who works has signed", m, in(impl.CtlHalting, "", 0, j))
	m = told(t, p, m, said(impl.CtlSigned, "", 7, 0), said(impl.CtlStopped, "far", 7, 1), said(impl.CtlStopped, "guard", 7, 1000))
	checkFirst(t, "all stopped", m, in(impl.CtlEnding, "", 0, j))
	m = told(t, p, m, said(impl.CtlGone, "far", 7, 0), said(impl.CtlGone, "guard", 7, 0))
	want := ofHouse()
	want.Last = 7
	if !sameMaster(m, want) {
		t.Errorf("behind its end %+v; want %+v", m, want)
	}
}

// A cleaning is done just if all that are asked have told that they cleaned, whoever was the last of them.
func TestCleaningsThatAreDoneAndThatAreNot(t *testing.T) {
	p := house()
	left := "tun:ale,water j:water k:ale,lye keg:ale"
	for what, from := range map[string]impl.CtlJob{"clean": houseJobs()["clean"], "lone": houseJobs()["lone"]} {
		asked := askedBy(what)
		for bits := range 1 << len(asked) {
			for _, other := range []int{0, 2, 5, 1000} {
				m := ofHouse(in(impl.CtlHalting, "", 0, from))
				m.Left = leftIn(p, left+" barn:lye,water")
				cleaned := 0
				for k := range asked {
					i := (k + bits) % len(asked)
					isClean := bits>>i&1 == 1
					cleaned += choose(isClean, 1, 0)
					m = told(t, p, m, said(impl.CtlStopped, asked[i], 7, choose(isClean, 1, other)))
				}
				isDone := cleaned == len(asked)
				want := in(impl.CtlEnding, "", cleaned, from)
				want.Done = isDone
				checkFirst(t, what, m, want)
				for _, station := range asked {
					m = told(t, p, m, said(impl.CtlGone, station, 7, 0))
				}
				end := impl.CtlMaster{Last: 7, Left: leftIn(p, left+" barn:lye,water")}
				if isDone {
					end.Left = leftIn(p, choose(what == "lone", left, "tun:ale,water keg:ale barn:lye,water"))
				}
				if !sameMaster(m, end) {
					t.Errorf("%s, of which %b cleaned: %+v; want %+v", what, bits, m, end)
				}
			}
		}
	}
}

// One that is not done leaves what it found, however much was told to be cleaned.
func TestCleaningsByDone(t *testing.T) {
	p := house()
	for moved := range 6 {
		for _, isDone := range []bool{false, true} {
			j := in(impl.CtlEnding, "east guard mid turn", moved, houseJobs()["clean"])
			j.Done = isDone
			m := ofHouse(j)
			m.Left = leftIn(p, "tun:ale j:ale k:lye keg:ale")
			want := impl.CtlMaster{Last: 7, Left: leftIn(p, choose(isDone, "tun:ale keg:ale", "tun:ale j:ale k:lye keg:ale"))}
			checkTell(t, "the last one", p, m, said(impl.CtlGone, "west", 7, 0), want)
			checkTell(t, "one that is heard", p, m, said(impl.CtlGone, "turn", 7, 0), m)
		}
	}
}

// Promise 29 bounds Moved by the stations that are asked, though a book may tell that more have cleaned than were heard.
func TestCleaningsThatTellOfMoreThanWereHeard(t *testing.T) {
	p := house()
	from := houseJobs()["clean"]
	for moved := range 6 {
		m := ofHouse(in(impl.CtlHalting, "", moved, from))
		want := moved
		for _, station := range askedBy("clean") {
			want = min(want+1, 5)
			m = told(t, p, m, said(impl.CtlStopped, station, 7, 1))
			checkMaster(t, "more than were heard", p, m, true)
		}
		checkFirst(t, "all stopped", m, done(in(impl.CtlEnding, "", 5, from)))
	}
}

func TestDenialsAndSignatures(t *testing.T) {
	p := house()
	for what, from := range houseJobs() {
		heard := strings.Join(askedBy(what)[1:], " ")
		for _, state := range allStates() {
			j := in(state, choose(state == impl.CtlRunning, "", heard), 0, from)
			m := ofHouse(j)
			halted := ofHouse(in(impl.CtlHalting, "", 0, from))
			// Whoever denies it, nothing comes of it.
			for _, station := range impl.CtlStations(p) {
				checkTell(t, what+" is denied", p, m, said(impl.CtlDenies, station, 7, 0), choose(state == impl.CtlAsking, halted, m))
			}
			checkTell(t, what+" is denied by nobody", p, m, said(impl.CtlDenies, "", 7, 0), m)
			checkTell(t, what+" is denied by none", p, m, said(impl.CtlDenies, "none", 7, 0), m)
			checkTell(t, what+" of another number is denied", p, m, said(impl.CtlDenies, "guard", 8, 0), m)
			checkTell(t, what+" is signed", p, m, said(impl.CtlSigned, "", 7, 0), choose(state == impl.CtlRunning && j.Kind == impl.ClaimPermit, halted, m))
			checkTell(t, what+" is signed by a station", p, m, said(impl.CtlSigned, "guard", 7, 0), m)
		}
	}
}

func TestMovedThatIsTold(t *testing.T) {
	p := house()
	for _, c := range []struct{ was, tells, want int }{{0, 0, 0}, {0, 1, 1}, {0, 5, 5}, {0, 6, 0}, {0, 1000, 0}, {2, 0, 2}, {2, 1, 2}, {2, 2, 2}, {2, 3, 3}, {2, 5, 5}, {2, 6, 2}, {5, 0, 5}, {5, 5, 5}, {5, 6, 5}, {5, 4, 5}} {
		j := houseJobs()["move"]
		m := ofHouse(in(impl.CtlHalting, "east", c.was, j))
		w := said(impl.CtlStopped, "guard", 7, c.tells)
		checkTell(t, "one of them", p, m, w, ofHouse(in(impl.CtlHalting, "east guard", c.want, j)))
		m = ofHouse(in(impl.CtlHalting, "east west", c.was, j))
		checkTell(t, "the last of them", p, m, w, ofHouse(in(impl.CtlEnding, "", c.want, j)))
	}
	for _, c := range []struct{ was, tells, want int }{{0, 0, 0}, {0, 1, 1}, {0, 2, 0}, {0, 5, 0}, {0, 1000, 0}, {3, 0, 3}, {3, 1, 4}, {3, 2, 3}, {3, 4, 3}} {
		j := houseJobs()["clean"]
		m := ofHouse(in(impl.CtlHalting, "east", c.was, j))
		w := said(impl.CtlStopped, "guard", 7, c.tells)
		checkTell(t, "one of them", p, m, w, ofHouse(in(impl.CtlHalting, "east guard", c.want, j)))
		m = ofHouse(in(impl.CtlHalting, "east mid turn west", c.was, j))
		checkTell(t, "the last of them", p, m, w, ofHouse(in(impl.CtlEnding, "", c.want, j)))
		m.Jobs[0].Moved = 4
		checkTell(t, "the last of them", p, m, w, ofHouse(choose(c.tells == 1, done(in(impl.CtlEnding, "", 5, j)), in(impl.CtlEnding, "", 4, j))))
	}
	j := houseJobs()["permit"]
	for _, tells := range []int{0, 1, 2, 1000} {
		checkTell(t, "a permit", p, ofHouse(in(impl.CtlHalting, "", 0, j)), said(impl.CtlStopped, "guard", 7, tells), ofHouse(in(impl.CtlHalting, "guard", 0, j)))
		checkTell(t, "a permit", p, ofHouse(in(impl.CtlHalting, "far", 0, j)), said(impl.CtlStopped, "guard", 7, tells), ofHouse(in(impl.CtlEnding, "", 0, j)))
	}
}

func TestWordsThatAreNotOkAreNotHeard(t *testing.T) {
	p := house()
	m := ofHouse(in(impl.CtlHalting, "east", 1, houseJobs()["move"]))
	for _, w := range []impl.CtlWord{
		said(impl.CtlStopped, "guard", 7, 1001), said(impl.CtlStopped, "guard", 7, -1), said(impl.CtlStopped, "", 7, 2), said(impl.CtlStopped, "Guard", 7, 2), said(impl.CtlStopped, "none", 7, 2),
		{Kind: impl.CtlStopped, Station: "guard", Number: 7, Done: true}, {Kind: impl.CtlStopped, Station: "guard", Number: 7, Want: cleanOf(7, "k", "")},
		{Kind: impl.CtlStopped, Station: "guard", Number: 7, Want: impl.ClaimWant{Stuffs: []string{""}}},
		said(0, "guard", 7, 2), said(11, "guard", 7, 2), said(-6, "guard", 7, 2), said(6+1<<32, "guard", 7, 2),
		said(impl.CtlStopped, "guard", 0, 2), said(impl.CtlStopped, "guard", -7, 2), said(impl.CtlStopped, "guard", 6, 2), said(impl.CtlStopped, "guard", 8, 2), said(impl.CtlStopped, "guard", 7+1<<32, 2), {},
	} {
		checkTell(t, "not ok, or of no job", p, m, w, m)
	}
	checkTell(t, "ok", p, m, said(impl.CtlStopped, "guard", 7, 2), ofHouse(in(impl.CtlHalting, "east guard", 2, houseJobs()["move"])))
	checkTell(t, "nothing", impl.Plant{}, impl.CtlMaster{}, said(impl.CtlSigned, "", 1, 0), impl.CtlMaster{})
	checkTell(t, "nobody works", p, ofHouse(), said(impl.CtlSigned, "", 1, 0), ofHouse())
}

// usesOneByDefinition says whether one of these places is a job's.
func usesOneByDefinition(m impl.CtlMaster, list []string) bool {
	for _, j := range m.Jobs {
		for _, place := range slices.Concat(j.Places, j.Route.Places) {
			if slices.Contains(list, place) {
				return true
			}
		}
	}
	return false
}

// beginByDefinition reads the codes from 4 on a second time.
func beginByDefinition(p impl.Plant, m impl.CtlMaster, j impl.CtlJob) (impl.CtlMaster, int) {
	j.Number, j.State = m.Last+1, 1
	after := copied(m)
	_, ok := askedByDefinition(p, j)
	switch {
	case len(m.Jobs) == 4 || m.Last == 1000000:
		return after, 4
	case usesOneByDefinition(m, slices.Concat(j.Places, j.Route.Places)):
		return after, 6
	case !ok:
		return after, 2
	}
	after.Last, after.Jobs = m.Last+1, append(after.Jobs, copied(j))
	return after, 0
}

func moveByDefinition(p impl.Plant, m impl.CtlMaster, r impl.PlantRoute, amount int) (impl.CtlMaster, int) {
	switch {
	case !masterByDefinition(p, m):
		return impl.CtlMaster{}, 1
	case !routeByDefinition(p, r) || amount < 1 || amount > 1000:
		return copied(m), 2
	}
	along := map[string]bool{}
	for _, l := range m.Left {
		if at := slices.Index(r.Places, l.Place); at >= 0 && at < len(r.Places)-1 {
			for _, stuff := range l.Stuffs {
				along[stuff] = true
			}
		}
	}
	if len(along) == 0 {
		return copied(m), 5
	}
	after, code := beginByDefinition(p, m, impl.CtlJob{Kind: 1, Route: r, Amount: amount, Stuffs: slices.Sorted(maps.Keys(along))})
	for i, l := range after.Left {
		if code == 0 && slices.Index(r.Places, l.Place) > 0 {
			all := maps.Clone(along)
			for _, stuff := range l.Stuffs {
				all[stuff] = true
			}
			after.Left[i].Stuffs = slices.Sorted(maps.Keys(all))
		}
	}
	return after, code
}

func placeByDefinition(p impl.Plant, m impl.CtlMaster, kind int, list []string) (impl.CtlMaster, int) {
	switch {
	case !masterByDefinition(p, m):
		return impl.CtlMaster{}, 1
	case kind != 2 && kind != 3 || len(list) < 1 || len(list) > 8 || !amongByDefinition(list, namesOfPlaces(p)):
		return copied(m), 2
	}
	return beginByDefinition(p, m, impl.CtlJob{Kind: kind, Places: list})
}

func haltByDefinition(p impl.Plant, m impl.CtlMaster, number int) (impl.CtlMaster, int) {
	if !masterByDefinition(p, m) {
		return impl.CtlMaster{}, 1
	}
	after := copied(m)
	for i, j := range after.Jobs {
		if j.Number != number {
			continue
		}
		if j.State > 2 || j.State == 2 && j.Kind == 3 {
			return after, 7
		}
		after.Jobs[i].State, after.Jobs[i].Heard = 3, nil
		return after, 0
	}
	return after, 3
}

func sayByDefinition(p impl.Plant, m impl.CtlMaster) []impl.CtlWord {
	if !masterByDefinition(p, m) {
		return nil
	}
	var all []impl.CtlWord
	for _, j := range m.Jobs {
		for _, a := range jobAsksByDefinition(p, j) {
			w := impl.CtlWord{Kind: []int{0, 1, 4, 5, 7}[j.State], Station: a.Station, Number: j.Number}
			if j.State == 1 {
				w.Want = a.Want
			}
			if j.State == 4 {
				w.Moved, w.Done = j.Moved, j.Done
			}
			if !slices.Contains(j.Heard, a.Station) {
				all = append(all, w)
			}
		}
		if j.Kind == 3 && j.State == 2 {
			all = append(all, impl.CtlWord{Kind: 9, Number: j.Number})
		}
	}
	return all
}

// hearByDefinition is what becomes of a job by the answer of a station; false, if it is taken out.
func hearByDefinition(p impl.Plant, j impl.CtlJob, w impl.CtlWord) (impl.CtlJob, bool) {
	asked, _ := askedByDefinition(p, j)
	if !slices.Contains(asked, w.Station) || slices.Contains(j.Heard, w.Station) {
		return j, true
	}
	j.Heard = slices.Sorted(slices.Values(append(slices.Clone(j.Heard), w.Station)))
	if w.Kind == 6 && j.Kind == 1 && w.Moved <= j.Amount {
		j.Moved = max(j.Moved, w.Moved)
	}
	if w.Kind == 6 && j.Kind == 2 && w.Moved == 1 {
		j.Moved = min(j.Moved+1, len(asked))
	}
	if len(j.Heard) < len(asked) {
		return j, true
	}
	j.Heard = nil
	if j.State == 3 {
		j.Done = j.Kind == 2 && j.Moved == len(asked)
	}
	j.State++
	return j, j.State < 5
}

func tellByDefinition(p impl.Plant, m impl.CtlMaster, w impl.CtlWord) impl.CtlMaster {
	if !masterByDefinition(p, m) {
		return impl.CtlMaster{}
	}
	after := copied(m)
	if !wordByDefinition(p, w) {
		return after
	}
	after.Jobs = nil
	for _, j := range copied(m).Jobs {
		stays := true
		switch {
		case j.Number != w.Number:
		case w.Kind == 3 && j.State == 1, w.Kind == 10 && j.State == 2 && j.Kind == 3:
			j.State, j.Heard = 3, nil
		case w.Kind == 2 && j.State == 1, w.Kind == 6 && j.State == 3, w.Kind == 8 && j.State == 4:
			j, stays = hearByDefinition(p, j, w)
		}
		if stays {
			after.Jobs = append(after.Jobs, j)
			continue
		}
		for i, l := range after.Left {
			if j.Done && slices.Contains(j.Places, l.Place) {
				after.Left[i].Stuffs = nil
			}
		}
	}
	return after
}

// checkTold asks what becomes of an ok book by a word, and for promise 29.
func checkTold(t *testing.T, p impl.Plant, m impl.CtlMaster, w impl.CtlWord) impl.CtlMaster {
	t.Helper()
	checkTell(t, "by reading", p, m, w, tellByDefinition(p, m, w))
	after := impl.CtlTell(p, m, w)
	checkMaster(t, "behind a word", p, after, true)
	isOther := func(j impl.CtlJob) bool { return j.Number != w.Number }
	others, stay := slices.DeleteFunc(copied(m.Jobs), func(j impl.CtlJob) bool { return !isOther(j) }), slices.DeleteFunc(copied(after.Jobs), func(j impl.CtlJob) bool { return !isOther(j) })
	if !reflect.DeepEqual(copied(others), copied(stay)) || after.Last != m.Last {
		t.Errorf("%+v changes %+v to %+v", w, m, after)
	}
	checkSaid(t, p, after)
	return after
}

// checkSaid asks what is said, of which all must be ok, and each to somebody else.
func checkSaid(t *testing.T, p impl.Plant, m impl.CtlMaster) {
	t.Helper()
	checkSay(t, "by reading", p, m, sayByDefinition(p, m)...)
	seen := map[string]int{}
	for _, w := range impl.CtlSay(p, m) {
		checkWord(t, "said", p, w, true)
		to := fmt.Sprint(w.Kind, w.Station, w.Number)
		if seen[to]++; seen[to] > 1 {
			t.Errorf("%s is said twice: %+v", to, m)
		}
	}
}

// checkBegun asks for promise 30 of what CtlMove and CtlPlace have begun, or refused.
func checkBegun(t *testing.T, p impl.Plant, m, after impl.CtlMaster, code int) {
	t.Helper()
	if code != 0 {
		if !sameMaster(m, after) {
			t.Errorf("refused with %d, %+v became %+v", code, m, after)
		}
		return
	}
	checkMaster(t, "behind a beginning", p, after, true)
	j := after.Jobs[len(after.Jobs)-1]
	for _, other := range m.Jobs {
		if other.Number >= j.Number {
			t.Errorf("%d is no new number: %+v", j.Number, m)
		}
	}
	places := slices.Concat(j.Places, j.Route.Places)
	if j.Number != m.Last+1 || after.Last != j.Number || usesOneByDefinition(m, places) || !reflect.DeepEqual(copied(m.Jobs), copied(after.Jobs[:len(m.Jobs)])) {
		t.Errorf("%+v began in %+v", j, m)
	}
	for i, l := range after.Left {
		at := slices.Index(j.Route.Places, l.Place)
		was := m.Left[i].Stuffs
		switch {
		case at > 0 && (!amongByDefinition(j.Stuffs, l.Stuffs) || !amongByDefinition(was, l.Stuffs)):
			t.Errorf("in %q %q may be left, behind %q: %+v", l.Place, l.Stuffs, was, j)
		case at <= 0 && !slices.Equal(was, l.Stuffs):
			t.Errorf("in %q %q may be left, ahead %q: %+v", l.Place, l.Stuffs, was, j)
		}
		// What may be left where it comes from, or comes by, comes along.
		if at >= 0 && at < len(j.Route.Places)-1 && !amongByDefinition(was, j.Stuffs) {
			t.Errorf("%q may be left in %q, and do not come along: %+v", was, l.Place, j)
		}
	}
	checkSaid(t, p, after)
}

func checkMoveByReading(t *testing.T, what string, p impl.Plant, m impl.CtlMaster, r impl.PlantRoute, amount int) (impl.CtlMaster, int) {
	t.Helper()
	want, code := moveByDefinition(p, m, r, amount)
	checkMove(t, what, p, m, r, amount, want, code)
	if code != 1 {
		checkBegun(t, p, m, want, code)
	}
	return want, code
}

func checkPlaceByReading(t *testing.T, what string, p impl.Plant, m impl.CtlMaster, kind int, list []string) (impl.CtlMaster, int) {
	t.Helper()
	want, code := placeByDefinition(p, m, kind, list)
	checkPlace(t, what, p, m, kind, list, want, code)
	if code != 1 {
		checkBegun(t, p, m, want, code)
	}
	return want, code
}

func checkHaltByReading(t *testing.T, what string, p impl.Plant, m impl.CtlMaster, number int) (impl.CtlMaster, int) {
	t.Helper()
	want, code := haltByDefinition(p, m, number)
	checkHalt(t, what, p, m, number, want, code)
	if code != 1 {
		checkMaster(t, what, p, want, true)
	}
	return want, code
}

func TestEachWordInEachState(t *testing.T) {
	p := house()
	for what, from := range houseJobs() {
		asked := askedBy(what)
		for _, state := range allStates() {
			for bits := range 1<<len(asked) - 1 {
				if state == impl.CtlRunning && bits > 0 || bits > 7 && bits%4 != 3 {
					continue
				}
				j := from
				j.State, j.Heard = state, pick(asked, bits)
				if state >= impl.CtlHalting && j.Kind != impl.ClaimPermit {
					j.Moved = min(bits%6, choose(j.Kind == impl.ClaimMove, j.Amount, len(asked)))
				}
				m := ofHouse(stillJob(3, impl.ClaimPermit, choose(what == "lone", "vat", "barn")), j)
				m.Left = leftIn(p, "tun:ale j:ale k:lye keg:ale barn:water")
				for kind := range 12 {
					for _, station := range []string{"", asked[0], asked[len(asked)-1], asked[bits%len(asked)], "far", "lone", "none"} {
						for _, moved := range []int{0, 1, 2, 6}[:choose(kind == impl.CtlStopped, 4, 1)] {
							w := said(kind, station, 7, moved)
							if kind == impl.CtlAsks {
								w.Want = cleanOf(7, "k", "")
							}
							checkTell(t, what, p, m, w, tellByDefinition(p, m, w))
						}
					}
				}
			}
		}
	}
}

// ruling is a book with all that may be told to it at once.
type ruling struct {
	Plant  impl.Plant
	Master impl.CtlMaster
	Route  impl.PlantRoute
	Amount int
	Kind   int
	Places []string
	Number int
	Word   impl.CtlWord
}

func checkRulingByReading(t *testing.T, what string, r ruling) (move, place, halt int) {
	t.Helper()
	_, move = checkMoveByReading(t, what, r.Plant, r.Master, r.Route, r.Amount)
	_, place = checkPlaceByReading(t, what, r.Plant, r.Master, r.Kind, r.Places)
	_, halt = checkHaltByReading(t, what, r.Plant, r.Master, r.Number)
	checkSay(t, what, r.Plant, r.Master, sayByDefinition(r.Plant, r.Master)...)
	checkTell(t, what, r.Plant, r.Master, r.Word, tellByDefinition(r.Plant, r.Master, r.Word))
	return move, place, halt
}

// someRulings is what happens, and what does not.
func someRulings() []ruling {
	free := busyHouse()
	free.Jobs = free.Jobs[1:]
	all := []ruling{
		{house(), busyHouse(), alongHouse(), 5, impl.ClaimClean, []string{"j", "k"}, 3, said(impl.CtlStopped, "guard", 3, 5)},
		{house(), free, route("tun f keg"), 5, impl.ClaimPermit, []string{"keg", "tun"}, 4, said(impl.CtlGone, "lone", 12, 0)},
		{house(), ofHouse(in(impl.CtlHalting, "east guard mid turn", 4, houseJobs()["clean"])), route("tun f keg"), 1, impl.ClaimPermit, []string{"barn"}, 7, said(impl.CtlStopped, "west", 7, 1)},
		{house(), ofHouse(in(impl.CtlAsking, "far", 0, houseJobs()["permit"])), alongHouse(), 1, impl.ClaimClean, []string{"barn", "j", "tun"}, 7, said(impl.CtlGrants, "guard", 7, 0)},
		{house(), ofHouse(in(impl.CtlRunning, "", 0, houseJobs()["permit"])), alongHouse(), 1, impl.ClaimClean, []string{"barn", "j", "tun"}, 7, said(impl.CtlSigned, "", 7, 0)},
		{house(), ofHouse(in(impl.CtlAsking, "east", 0, houseJobs()["move"])), alongHouse(), 1, impl.ClaimClean, []string{"tun"}, 7, said(impl.CtlDenies, "east", 7, 0)},
	}
	for _, r := range someMasters() {
		all = append(all, ruling{r.Plant, r.Master, route("tun f keg"), 1, impl.ClaimPermit, []string{"keg"}, 7, said(impl.CtlGrants, "west", 7, 0)})
	}
	for _, r := range spoiltMasters() {
		all = append(all, ruling{r.Plant, r.Master, route("tun f keg"), 1, impl.ClaimPermit, []string{"k"}, 4, said(impl.CtlGrants, "west", 4, 0)})
	}
	return all
}

func TestRulingsOfWhichOneThingIsChanged(t *testing.T) {
	moves, placed, halts := map[int]int{}, map[int]int{}, map[int]int{}
	for i, from := range someRulings()[:6] {
		eachWithOneChange(from, []string{"", "barn", "east", "guard", "j", "keg", "none", "water"}, func(r ruling) {
			move, place, halt := checkRulingByReading(t, "one thing of "+strconv.Itoa(i), r)
			moves[move], placed[place], halts[halt] = moves[move]+1, placed[place]+1, halts[halt]+1
		})
	}
	for _, code := range []int{0, 1, 2, 4, 5, 6} {
		if moves[code] < 1 || code != 5 && placed[code] < 1 {
			t.Errorf("moves %v, places %v", moves, placed)
		}
	}
	for _, code := range []int{0, 1, 3, 7} {
		if halts[code] < 1 {
			t.Errorf("halts %v", halts)
		}
	}
}

// tiny has two vessels and a joint of two stations.
func tiny() impl.Plant {
	return written("stuff ale", "stuff lye", "foe ale lye", "vessel a 5 e", "joint j w", "vessel b 5 w", "valve u a j e", "valve v b j w")
}

// eachRuling tells what becomes of a book of the tiny plant by all that may be told to it.
func eachRuling(t *testing.T, p impl.Plant, m impl.CtlMaster, tell func(after impl.CtlMaster)) {
	t.Helper()
	for _, r := range routes("a u j v b", "b v j u a") {
		after, _ := checkMoveByReading(t, "tiny", p, m, r, 2)
		tell(after)
	}
	for _, list := range [][]string{{"a"}, {"b", "j"}, {"j"}} {
		for kind := 2; kind <= 3; kind++ {
			after, _ := checkPlaceByReading(t, "tiny", p, m, kind, list)
			tell(after)
		}
	}
	for number := range m.Last + 2 {
		after, _ := checkHaltByReading(t, "tiny", p, m, number)
		tell(after)
		for _, station := range []string{"e", "w"} {
			for _, w := range []impl.CtlWord{said(2, station, number, 0), said(3, station, number, 0), said(6, station, number, 0), said(6, station, number, 1), said(6, station, number, 3), said(8, station, number, 0)} {
				tell(checkTold(t, p, m, w))
			}
		}
		tell(checkTold(t, p, m, said(10, "", number, 0)))
	}
}

// Promises 29 and 30.
func TestAllShortRowsOfRulings(t *testing.T) {
	p := tiny()
	now := []impl.CtlMaster{{Left: leftIn(p, "a:ale j:lye")}}
	seen := map[string]bool{}
	states := map[string]int{}
	for range 5 {
		var next []impl.CtlMaster
		for _, m := range now {
			eachRuling(t, p, m, func(after impl.CtlMaster) {
				// What was begun more than twice is left out, as it is no more than those that were begun ahead.
				if key := fmt.Sprint(after); !seen[key] && after.Last <= 2 {
					seen[key] = true
					next = append(next, after)
					for _, j := range after.Jobs {
						states[fmt.Sprint(j.Kind, j.State, j.Done)]++
					}
				}
			})
		}
		now = next
	}
	if len(seen) < 500 || len(states) < 13 {
		t.Errorf("%d books were come to, in %v", len(seen), states)
	}
}

// drawnWord draws one that is of a job of the book, more often than not, and ok.
func drawnWord(dice *rand.Rand, p impl.Plant, m impl.CtlMaster) impl.CtlWord {
	w := impl.CtlWord{Kind: dice.Intn(12), Number: dice.Intn(m.Last + 2)}
	stations := append(stationsByDefinition(p), "none")
	if len(m.Jobs) > 0 && dice.Intn(8) > 0 {
		j := m.Jobs[dice.Intn(len(m.Jobs))]
		w.Number = j.Number
		if asked, _ := askedByDefinition(p, j); dice.Intn(8) > 0 {
			stations = asked
		}
		// The kind that is answered with comes more often.
		if dice.Intn(2) == 0 {
			w.Kind = []int{0, 2, 10, 6, 8}[j.State]
		}
	}
	if w.Kind < 9 {
		w.Station = stations[dice.Intn(len(stations))]
	}
	if w.Kind == 6 || dice.Intn(10) == 0 {
		w.Moved = dice.Intn(4)
	}
	w.Done = dice.Intn(20) == 0
	return w
}

// Promises 29 and 30 of books as they may not come about.
func TestRulingsOfDrawnMasters(t *testing.T) {
	dice := rand.New(rand.NewSource(34))
	moves, placed, halts, told := map[int]int{}, map[int]int{}, map[int]int{}, 0
	for range 300 {
		p := somePlant(dice)
		m := drawnMaster(dice, p)
		if dice.Intn(30) == 0 {
			m.Last = impl.ClaimMaxNumber
		}
		checkSaid(t, p, m)
		for range 10 {
			w := drawnWord(dice, p, m)
			if after := checkTold(t, p, m, w); !sameMaster(after, m) {
				told++
			}
			_, code := checkHaltByReading(t, "drawn", p, m, w.Number)
			halts[code]++
		}
		all := allRoutes(p)
		for range min(len(all), 4) {
			_, code := checkMoveByReading(t, "drawn", p, m, all[dice.Intn(len(all))], dice.Intn(4))
			moves[code]++
		}
		for range 4 {
			list := pick(namesOfPlaces(p), dice.Intn(1<<14)&dice.Intn(1<<14))
			_, code := checkPlaceByReading(t, "drawn", p, m, 1+dice.Intn(4), list)
			placed[code]++
		}
	}
	if told < 500 {
		t.Errorf("%d words changed a book", told)
	}
	for _, code := range []int{0, 2, 4, 5, 6} {
		if moves[code] < 10 || code != 5 && placed[code] < 10 {
			t.Errorf("moves %v, places %v", moves, placed)
		}
	}
	for _, code := range []int{0, 3, 7} {
		if halts[code] < 10 {
			t.Errorf("halts %v", halts)
		}
	}
}

// Promises 29 and 30 of books as they come about.
func TestLongRowsOfRulings(t *testing.T) {
	dice := rand.New(rand.NewSource(35))
	ended, cleaned := 0, 0
	for range 50 {
		p := somePlant(dice)
		var m impl.CtlMaster
		for _, name := range namesOfPlaces(p) {
			m.Left = append(m.Left, impl.CtlLeft{Place: name, Stuffs: pick(p.Stuffs, dice.Intn(32)&dice.Intn(32))})
		}
		all := allRoutes(p)
		for range 100 {
			before := m
			switch dice.Intn(12) {
			case 0:
				if len(all) > 0 {
					m, _ = checkMoveByReading(t, "a row", p, m, all[dice.Intn(len(all))], 1+dice.Intn(4))
				}
			case 1:
				m, _ = checkPlaceByReading(t, "a row", p, m, 2+dice.Intn(2), pick(namesOfPlaces(p), dice.Intn(1<<14)&dice.Intn(1<<14)&dice.Intn(1<<14)))
			case 2:
				m, _ = checkHaltByReading(t, "a row", p, m, dice.Intn(m.Last+2))
			default:
				w := drawnWord(dice, p, m)
				for i := 0; i < 3 && sameMaster(m, impl.CtlTell(p, m, w)); i++ {
					w = drawnWord(dice, p, m)
				}
				// Denials would end most, and few would be cleaned, if less tell so.
				w.Kind = choose(w.Kind == impl.CtlDenies && dice.Intn(4) > 0, impl.CtlGrants, w.Kind)
				w.Moved = choose(w.Kind == impl.CtlStopped && dice.Intn(4) > 0, 1, w.Moved)
				m = checkTold(t, p, m, w)
				ended += choose(len(m.Jobs) < len(before.Jobs), 1, 0)
				cleaned += choose(!reflect.DeepEqual(copied(m.Left), copied(before.Left)), 1, 0)
			}
		}
	}
	if ended < 100 || cleaned < 5 {
		t.Errorf("%d jobs ended, %d of them cleaned", ended, cleaned)
	}
}

func TestRulingsLeaveTheirArguments(t *testing.T) {
	for _, from := range someRulings() {
		r := withRoom(from)
		was := withWhatIsBehind(r)
		move, code := impl.CtlMove(r.Plant, r.Master, r.Route, r.Amount)
		checkMove(t, "without room", from.Plant, from.Master, from.Route, from.Amount, move, code)
		place, code := impl.CtlPlace(r.Plant, r.Master, r.Kind, r.Places)
		checkPlace(t, "without room", from.Plant, from.Master, from.Kind, from.Places, place, code)
		halt, code := impl.CtlHalt(r.Plant, r.Master, r.Number)
		checkHalt(t, "without room", from.Plant, from.Master, from.Number, halt, code)
		checkSay(t, "without room", from.Plant, from.Master, impl.CtlSay(r.Plant, r.Master)...)
		checkTell(t, "without room", from.Plant, from.Master, from.Word, impl.CtlTell(r.Plant, r.Master, r.Word))
		if !reflect.DeepEqual(withWhatIsBehind(r), was) {
			t.Errorf("the arguments became %+v", withWhatIsBehind(r))
		}
	}
}

func TestRulingsAreNewMemory(t *testing.T) {
	for i, from := range someRulings() {
		r := withRoom(from)
		what := strconv.Itoa(i)
		move, _ := impl.CtlMove(r.Plant, r.Master, r.Route, r.Amount)
		place, _ := impl.CtlPlace(r.Plant, r.Master, r.Kind, r.Places)
		halt, _ := impl.CtlHalt(r.Plant, r.Master, r.Number)
		words, after := impl.CtlSay(r.Plant, r.Master), impl.CtlTell(r.Plant, r.Master, r.Word)
		for name, answer := range map[string]any{"CtlMove ": move, "CtlPlace ": place, "CtlHalt ": halt, "CtlSay ": words, "CtlTell ": after} {
			checkOwnMemory(t, name+what, answer, r)
			checkOwnLists(t, name+what, answer, r)
		}
		for _, m := range []impl.CtlMaster{move, place, halt, after} {
			for _, j := range m.Jobs {
				for _, list := range [][]string{j.Places, j.Stuffs, j.Heard, j.Route.Places, j.Route.Valves} {
					spoilTexts(list)
				}
			}
			for _, l := range m.Left {
				spoilTexts(l.Stuffs)
			}
		}
		checkRulingByReading(t, "behind answers that were written into", r)
	}
}

func TestRulingsOfVeryLongLists(t *testing.T) {
	long := 20000
	names := numbered("s", long)
	p, m := house(), busyHouse()
	m.Jobs = m.Jobs[2:]
	checkNoMove(t, "a long route", p, m, impl.PlantRoute{Places: names, Valves: names[1:]}, 1, 2)
	checkNoMove(t, "a long way there and back", p, m, impl.PlantRoute{Places: slices.Repeat([]string{"tun", "keg"}, long), Valves: slices.Repeat([]string{"f"}, 2*long-1)}, 1, 2)
	checkNoPlace(t, "one place for long", p, m, impl.ClaimClean, slices.Repeat([]string{"j"}, long), 2)
	w := said(impl.CtlGone, "lone", 12, 0)
	w.Want.Stuffs = names
	checkTell(t, "a long want", p, m, w, m)
	checkTell(t, "a long station", p, m, said(impl.CtlGone, strings.Repeat("lone", 1<<18), 12, 0), m)
}

// What one call was given must not be seen in the next one, nor in one beside it.
func TestRulingsKeepNothing(t *testing.T) {
	all := someRulings()
	var callers sync.WaitGroup
	for range 8 {
		callers.Go(func() {
			for i := range 2 * len(all) {
				checkRulingByReading(t, "one beside others", all[i%len(all)])
			}
		})
	}
	callers.Wait()
}
