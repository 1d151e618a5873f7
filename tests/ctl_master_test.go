package tests

import (
	"fmt"
	"math"
	"math/rand"
	"reflect"
	"slices"
	"strconv"
	"strings"
	"sync"
	"testing"

	"loop.example/malthouse/impl"
)

// leftIn is what may be left in each place of a plant, where it is anything told as "tun:ale,lye keg:ale".
func leftIn(p impl.Plant, text string) []impl.CtlLeft {
	told := map[string]string{}
	for _, field := range strings.Fields(text) {
		place, stuffs, _ := strings.Cut(field, ":")
		told[place] = strings.ReplaceAll(stuffs, ",", " ")
	}
	var all []impl.CtlLeft
	for _, x := range p.Places {
		all = append(all, impl.CtlLeft{Place: x.Name, Stuffs: strings.Fields(told[x.Name])})
	}
	return all
}

// moveJob asks, and nobody is heard.
func moveJob(number int, way, stuffs string, amount int) impl.CtlJob {
	return impl.CtlJob{Number: number, Kind: impl.ClaimMove, Route: route(way), Stuffs: strings.Fields(stuffs), Amount: amount, State: impl.CtlAsking}
}

// stillJob is a cleaning or a permit that asks, and nobody is heard.
func stillJob(number, kind int, list string) impl.CtlJob {
	return impl.CtlJob{Number: number, Kind: kind, Places: strings.Fields(list), State: impl.CtlAsking}
}

// in is a job in another state.
func in(state int, heard string, moved int, j impl.CtlJob) impl.CtlJob {
	j.State, j.Heard, j.Moved = state, strings.Fields(heard), moved
	return j
}

func done(j impl.CtlJob) impl.CtlJob {
	j.Done = true
	return j
}

// houseJobs is jobs of each kind in the house, each with other stations that are asked.
func houseJobs() map[string]impl.CtlJob {
	return map[string]impl.CtlJob{
		"move":      moveJob(7, "tun f keg", "ale water", 5),
		"long move": moveJob(7, "tun a j b k c keg", "ale", 1000),
		"clean":     stillJob(7, impl.ClaimClean, "j k"),
		"permit":    stillJob(7, impl.ClaimPermit, "m vat"),
		"lone":      stillJob(7, impl.ClaimClean, "barn"),
	}
}

// askedBy is the stations that a job of the house asks.
func askedBy(what string) []string {
	return strings.Fields(map[string]string{"move": "east guard west", "long move": "east guard mid turn west", "clean": "east guard mid turn west", "permit": "far guard", "lone": "lone"}[what])
}

// busyHouse has as many jobs as there can be, of each kind, and in each state.
func busyHouse() impl.CtlMaster {
	return impl.CtlMaster{Last: 12, Left: leftIn(house(), "tun:ale,water keg:ale,lye,water j:water barn:lye m:ale"), Jobs: []impl.CtlJob{
		in(impl.CtlHalting, "east west", 3, moveJob(3, "tun f keg", "ale water", 5)),
		in(impl.CtlAsking, "mid turn", 0, stillJob(4, impl.ClaimClean, "j k")),
		in(impl.CtlRunning, "", 0, stillJob(9, impl.ClaimPermit, "m vat")),
		done(in(impl.CtlEnding, "", 1, stillJob(12, impl.ClaimClean, "barn"))),
	}}
}

// ofHouse is a book of the house with no more than these jobs.
func ofHouse(jobs ...impl.CtlJob) impl.CtlMaster {
	m := impl.CtlMaster{Left: leftIn(house(), "tun:ale,water"), Jobs: jobs}
	for _, j := range jobs {
		m.Last = max(m.Last, j.Number)
	}
	return m
}

// ruled is a book, and the plant that it is of.
type ruled struct {
	Plant  impl.Plant
	Master impl.CtlMaster
}

// someMasters is books that are ok, each in a way of its own.
func someMasters() map[string]ruled {
	all := map[string]ruled{
		"nothing":            {},
		"empty lists":        {impl.Plant{}, impl.CtlMaster{Jobs: []impl.CtlJob{}, Left: []impl.CtlLeft{}}},
		"no places":          {impl.Plant{Stuffs: []string{"ale"}}, impl.CtlMaster{Last: 3}},
		"busy":               {house(), busyHouse()},
		"idle":               {house(), ofHouse()},
		"foes left together": {house(), impl.CtlMaster{Left: leftIn(house(), "tun:ale,lye,water j:ale,lye")}},
		"foes moved":         {house(), ofHouse(moveJob(1, "tun f keg", "ale lye", 1))},
		"two stations":       {smallPlant(), impl.CtlMaster{Last: 1000000, Left: leftIn(smallPlant(), ""), Jobs: []impl.CtlJob{in(impl.CtlHalting, "west", 1000, moveJob(1000000, "tun b j a keg", "malt", 1000))}}},
		"full":               {fullPlant(), impl.CtlMaster{Last: 9, Left: leftIn(fullPlant(), "p10:a,b,c,d,e,f,g,h p23:h"), Jobs: []impl.CtlJob{moveJob(2, "p11 v11 p12", "a b c d e f g h", 1), stillJob(5, impl.ClaimPermit, "p16 p17 p18 p19 p20 p21 p22 p23")}}},
		"each of its own":    {manyStations(), impl.CtlMaster{Last: 9, Left: leftIn(manyStations(), ""), Jobs: []impl.CtlJob{in(impl.CtlEnding, "s35 s37 s48 s50 s97", 1, moveJob(2, "p11 v11 p12", "a", 1))}}},
		"one name for all":   {written("stuff a", "vessel a 5 a", "joint b c", "vessel c 5 b", "valve b a b a", "valve a b c b", "valve c a c c"), impl.CtlMaster{Last: 1, Jobs: []impl.CtlJob{in(impl.CtlAsking, "a c", 0, moveJob(1, "a b b a c", "a", 2))}, Left: []impl.CtlLeft{{Place: "a"}, {Place: "b"}, {Place: "c", Stuffs: []string{"a"}}}}},
	}
	for what, j := range houseJobs() {
		all[what] = ruled{house(), ofHouse(j)}
	}
	return all
}

func checkMaster(t *testing.T, what string, p impl.Plant, m impl.CtlMaster, want bool) {
	t.Helper()
	if got := impl.CtlMasterOk(p, m); got != want {
		t.Errorf("%s: CtlMasterOk = %v; want %v: %+v in %+v", what, got, want, m, p)
	}
}

// checkJob asks for a book of the house with this job alone.
func checkJob(t *testing.T, what string, j impl.CtlJob, want bool) {
	t.Helper()
	m := ofHouse(j)
	m.Last = impl.ClaimMaxNumber
	checkMaster(t, what, house(), m, want)
}

func checkJobAsks(t *testing.T, what string, p impl.Plant, j impl.CtlJob, want ...impl.CtlAsk) {
	t.Helper()
	if got := impl.CtlJobAsks(p, j); !sameAsks(got, want) {
		t.Errorf("%s: CtlJobAsks = %+v; want %+v: %+v in %+v", what, got, want, j, p)
	}
}

// allStates is each State of a job.
func allStates() []int {
	return []int{impl.CtlAsking, impl.CtlRunning, impl.CtlHalting, impl.CtlEnding}
}

func TestStatesByTheirNumbers(t *testing.T) {
	if !slices.Equal(allStates(), []int{1, 2, 3, 4}) || impl.CtlMaxJobs != 4 {
		t.Errorf("%d, %d", allStates(), impl.CtlMaxJobs)
	}
}

func TestAsksOfJobs(t *testing.T) {
	p := house()
	for what, j := range houseJobs() {
		var asked []string
		for _, a := range impl.CtlJobAsks(p, j) {
			asked = append(asked, a.Station)
		}
		if !slices.Equal(asked, askedBy(what)) {
			t.Errorf("%s: %q are asked", what, asked)
		}
	}
	checkJobAsks(t, "a move", p, houseJobs()["move"],
		ask("east", moveOf(7, "ale water", "keg<5", "", "c")), ask("guard", moveOf(7, "ale water", "", "", "e")), ask("west", moveOf(7, "ale water", "tun>5", "f", "a")))
	checkJobAsks(t, "a cleaning", p, houseJobs()["clean"],
		ask("east", cleanOf(7, "", "c")), ask("guard", cleanOf(7, "", "d")), ask("mid", cleanOf(7, "k", "")), ask("turn", cleanOf(7, "", "b")), ask("west", cleanOf(7, "j", "a")))
	checkJobAsks(t, "a permit", p, houseJobs()["permit"], ask("far", permitOf(7, "m vat", "g")), ask("guard", permitOf(7, "", "d e")))
	for _, kind := range []int{math.MinInt, -1, 0, 4, 5, 257, 1 + 1<<32, math.MaxInt} {
		for what, j := range houseJobs() {
			j.Kind = kind
			checkJobAsks(t, what+" of another kind", p, j)
		}
	}
	for i, q := range notValid() {
		for what, j := range houseJobs() {
			checkJobAsks(t, what+" in plant "+strconv.Itoa(i), q, j)
		}
		checkJobAsks(t, "in plant "+strconv.Itoa(i), q, stillJob(1, impl.ClaimClean, "keg"))
		checkJobAsks(t, "in plant "+strconv.Itoa(i), q, moveJob(1, "keg c tun", "ale", 1))
	}
}

// What a job has beside what its kind is told by, and how it stands, does not count for what it asks.
func TestAsksOfJobsByTheirKindAlone(t *testing.T) {
	p := house()
	for what, from := range houseJobs() {
		want := impl.CtlJobAsks(p, from)
		j := from
		if j.Kind == impl.ClaimMove {
			j.Places = []string{"barn"}
		} else {
			j.Route, j.Stuffs, j.Amount = route("tun f keg"), []string{"lye"}, 9
		}
		checkJobAsks(t, what+" with what others have", p, j, want...)
		for _, state := range []int{-1, 0, 1, 2, 3, 4, 5} {
			checkJobAsks(t, what, p, done(in(state, "east none", 99, from)), want...)
		}
		// It is asked for as it is, be it ok or not.
		j = from
		j.Number = -1
		for i := range want {
			want[i].Want.Number = -1
		}
		checkJobAsks(t, what+" of another number", p, j, want...)
	}
}

func TestAsksOfJobsThatAreNone(t *testing.T) {
	for what, r := range noRoutes() {
		checkJobAsks(t, what, mesh(), impl.CtlJob{Number: 1, Kind: impl.ClaimMove, Route: r, Stuffs: []string{"ale"}, Amount: 1})
	}
	for _, kind := range []int{impl.ClaimClean, impl.ClaimPermit} {
		for _, list := range []string{"", "none", "k j", "j j", "j none", "a"} {
			checkJobAsks(t, list, house(), stillJob(1, kind, list))
		}
		checkJobAsks(t, "too many", fullPlant(), stillJob(1, kind, strings.Join(namesOfPlaces(fullPlant())[:9], " ")))
	}
	// A route is no places, and places are no route.
	for what, j := range houseJobs() {
		j.Kind = choose(j.Kind == impl.ClaimMove, impl.ClaimClean, impl.ClaimMove)
		checkJobAsks(t, what, house(), j)
	}
	checkJobAsks(t, "nothing", impl.Plant{}, impl.CtlJob{})
}

func TestMastersThatAreOk(t *testing.T) {
	for what, r := range someMasters() {
		checkMaster(t, what, r.Plant, r.Master, true)
	}
	checkMaster(t, "nothing of a plant with places", house(), impl.CtlMaster{}, false)
	checkMaster(t, "of another plant", smallPlant(), busyHouse(), false)
	checkMaster(t, "of no plant", impl.Plant{}, busyHouse(), false)
}

func TestMastersOfPlantsThatAreNotValid(t *testing.T) {
	for i, p := range notValid() {
		what := "plant " + strconv.Itoa(i)
		checkMaster(t, what, p, impl.CtlMaster{}, false)
		checkMaster(t, what, p, impl.CtlMaster{Left: leftIn(p, "")}, false)
		checkMaster(t, what, p, impl.CtlMaster{Last: 1, Left: leftIn(p, ""), Jobs: []impl.CtlJob{stillJob(1, impl.ClaimPermit, "j")}}, false)
	}
	for i, p := range spoilt() {
		checkMaster(t, "healed "+strconv.Itoa(i), smallPlant(), impl.CtlMaster{Last: 1, Left: leftIn(p, ""), Jobs: []impl.CtlJob{stillJob(1, impl.ClaimPermit, "j")}}, true)
	}
}

func TestLastOfMasters(t *testing.T) {
	for last, want := range map[int]bool{math.MinInt: false, -2: false, -1: false, 0: true, 1: true, 999999: true, 1000000: true, impl.ClaimMaxNumber + 1: false, 1 << 32: false, math.MaxInt: false} {
		m := ofHouse()
		m.Last = last
		checkMaster(t, "last", house(), m, want)
		m = busyHouse()
		m.Last = last
		checkMaster(t, "last of some", house(), m, want && last >= 12)
	}
	for last := range 15 {
		m := busyHouse()
		m.Last = last
		checkMaster(t, "last of some", house(), m, last >= 12)
	}
}

func TestLeftOfMasters(t *testing.T) {
	p := house()
	for _, from := range []impl.CtlMaster{ofHouse(), busyHouse()} {
		for i := range from.Left {
			m := copied(from)
			m.Left = slices.Delete(m.Left, i, i+1)
			checkMaster(t, "a place too few", p, m, false)
			m = copied(from)
			m.Left = slices.Insert(m.Left, i, m.Left[i])
			checkMaster(t, "a place twice", p, m, false)
			m = copied(from)
			m.Left = slices.Insert(m.Left, i, impl.CtlLeft{Place: "none"})
			checkMaster(t, "a place too many", p, m, false)
			for _, text := range append(noNames(), "none", "west", "a", "ale", strings.ToUpper(from.Left[i].Place)) {
				m = copied(from)
				m.Left[i].Place = text
				checkMaster(t, "another place", p, m, false)
			}
			for text, want := range map[string]bool{"": true, "ale": true, "water": true, "ale lye": true, "ale water": true, "ale lye water": true, "lye ale": false, "ale ale": false, "water lye": false, "ale water lye": false,
				"none": false, "ale none": false, "beer": false, "tun": false, "west": false, "f": false, "ale lye water water": false, "Ale": false, "al": false, "ales": false} {
				m = copied(from)
				m.Left[i].Stuffs = strings.Fields(text)
				checkMaster(t, "stuffs "+text, p, m, want)
			}
			for _, text := range noNames() {
				m = copied(from)
				m.Left[i].Stuffs = []string{text}
				checkMaster(t, "no name", p, m, false)
			}
		}
		m := copied(from)
		m.Left = append(m.Left, impl.CtlLeft{Place: "zz"})
		checkMaster(t, "one behind all", p, m, false)
		m.Left = nil
		checkMaster(t, "none at all", p, m, false)
		for i, list := range swapped(from.Left) {
			m.Left = list
			checkMaster(t, "out of order "+strconv.Itoa(i), p, m, false)
		}
	}
	// What may be left in places that are used is not asked for.
	m := busyHouse()
	m.Left = leftIn(p, "")
	checkMaster(t, "nothing is left anywhere", p, m, true)
}

func TestHowManyJobs(t *testing.T) {
	p := house()
	var jobs []impl.CtlJob
	for i, place := range namesOfPlaces(p) {
		jobs = append(jobs, stillJob(i+1, impl.ClaimPermit, place))
	}
	for many := range len(jobs) + 1 {
		checkMaster(t, strconv.Itoa(many), p, ofHouse(jobs[:many]...), many <= 4)
		checkMaster(t, "the last "+strconv.Itoa(many), p, ofHouse(jobs[len(jobs)-many:]...), many <= 4)
	}
}

func TestNumbersOfJobs(t *testing.T) {
	for number, want := range map[int]bool{math.MinInt: false, -1: false, 0: false, 1: true, 2: true, 999999: true, 1000000: true, impl.ClaimMaxNumber + 1: false, 1 << 32: false, math.MaxInt: false} {
		for what, j := range houseJobs() {
			j.Number = number
			checkJob(t, what, j, want)
			m := ofHouse(j)
			checkMaster(t, what+" of the last number", house(), m, want)
			m.Last = number - 1
			checkMaster(t, what+" above the last number", house(), m, false)
		}
	}
	for a := -1; a <= 4; a++ {
		for b := -1; b <= 4; b++ {
			for last := -1; last <= 4; last++ {
				m := ofHouse(stillJob(a, impl.ClaimClean, "j"), moveJob(b, "tun f keg", "ale", 1))
				m.Last = last
				checkMaster(t, fmt.Sprint(a, b, last), house(), m, 1 <= a && a < b && b <= last)
			}
		}
	}
	for i := range 4 {
		m := busyHouse()
		for _, other := range []int{0, 3, 4, 9, 12, 13} {
			was := m.Jobs[i].Number
			m.Jobs[i].Number = other
			want := other >= 1 && other <= 12
			for k := 1; k < 4; k++ {
				want = want && m.Jobs[k-1].Number < m.Jobs[k].Number
			}
			checkMaster(t, "another number", house(), m, want)
			m.Jobs[i].Number = was
		}
	}
	for i, jobs := range swapped(busyHouse().Jobs) {
		m := busyHouse()
		m.Jobs = jobs
		checkMaster(t, "out of order "+strconv.Itoa(i), house(), m, false)
	}
}

func TestStatesOfJobs(t *testing.T) {
	for _, state := range []int{math.MinInt, -1, 0, 1, 2, 3, 4, 5, 6, 257, 1 + 1<<32, math.MaxInt} {
		for what, j := range houseJobs() {
			checkJob(t, what, in(state, "", 0, j), state >= 1 && state <= 4)
		}
	}
}

func TestJobsThatAskForNothing(t *testing.T) {
	for what, from := range houseJobs() {
		for _, kind := range []int{math.MinInt, -1, 0, 4, 5, 1 + 1<<32, math.MaxInt} {
			j := from
			j.Kind = kind
			checkJob(t, what+" of another kind", j, false)
			j.Route, j.Stuffs, j.Amount = impl.PlantRoute{}, nil, 0
			checkJob(t, what+" of another kind, with places alone", j, false)
		}
		j := from
		j.Route, j.Places = impl.PlantRoute{}, nil
		checkJob(t, what+" of nothing", j, false)
	}
	for what, r := range noRoutes() {
		m := impl.CtlMaster{Last: 1, Left: leftIn(mesh(), ""), Jobs: []impl.CtlJob{{Number: 1, Kind: impl.ClaimMove, Route: r, Stuffs: []string{"ale"}, Amount: 1, State: impl.CtlAsking}}}
		p := mesh()
		p.Stuffs = []string{"ale"}
		checkMaster(t, what, p, m, false)
		m.Jobs[0].Route = route("a v1 j v2 b")
		checkMaster(t, "a route", p, m, true)
	}
	for _, list := range []string{"none", "k j", "j j", "j none", "a", "west", ""} {
		checkJob(t, list, stillJob(1, impl.ClaimClean, list), false)
		checkJob(t, list, stillJob(1, impl.ClaimPermit, list), false)
	}
	checkJob(t, "nothing", impl.CtlJob{}, false)
}

// wide is a line of joints between two vessels, all of one station, with so many joints, and so many valves more at the first of them.
func wide(joints, more int) impl.Plant {
	lines := []string{"stuff ale", "vessel a 9 w", "vessel z 9 e"}
	last := "a"
	for i, name := range numbered("j", joints) {
		lines = append(lines, "joint "+name+" m", fmt.Sprintf("valve v%02d %s %s o", i, last, name))
		last = name
	}
	lines = append(lines, fmt.Sprintf("valve v99 %s z e", last))
	for _, name := range numbered("w", more) {
		lines = append(lines, "valve "+name+" a z g")
	}
	return written(lines...)
}

func TestJobsThatAskForTooMuch(t *testing.T) {
	for joints := 1; joints <= 12; joints++ {
		p := wide(joints, 0)
		r := impl.PlantRoutes(p, "a", "z")[0]
		m := impl.CtlMaster{Last: 1, Left: leftIn(p, ""), Jobs: []impl.CtlJob{{Number: 1, Kind: impl.ClaimMove, Route: r, Stuffs: []string{"ale"}, Amount: 1, State: impl.CtlAsking}}}
		checkMaster(t, fmt.Sprint(joints, " joints of one station"), p, m, joints <= impl.ClaimMaxUses)
	}
	for more := range 17 {
		p := wide(1, more)
		for kind := range 2 {
			m := impl.CtlMaster{Last: 1, Left: leftIn(p, ""), Jobs: []impl.CtlJob{stillJob(1, impl.ClaimClean+kind, "a")}}
			checkMaster(t, fmt.Sprint(more, " valves of one station"), p, m, more <= impl.ClaimMaxTurns)
		}
		r := impl.PlantRoutes(p, "a", "z")
		m := impl.CtlMaster{Last: 1, Left: leftIn(p, ""), Jobs: []impl.CtlJob{{Number: 1, Kind: impl.ClaimMove, Route: r[len(r)-1], Stuffs: []string{"ale"}, Amount: 1, State: impl.CtlAsking}}}
		checkMaster(t, fmt.Sprint(more, " valves of one station"), p, m, more <= impl.ClaimMaxTurns)
	}
}

func TestStuffsOfJobs(t *testing.T) {
	for text, want := range map[string]bool{"": false, "ale": true, "lye": true, "water": true, "ale lye": true, "ale water": true, "ale lye water": true, "lye ale": false, "ale ale": false, "water lye": false, "ale water lye": false,
		"none": false, "ale none": false, "malt": false, "tun": false, "Ale": false, "al": false, "ale lye water water": false} {
		for what, j := range houseJobs() {
			j.Stuffs = strings.Fields(text)
			checkJob(t, what+" with "+text, j, choose(j.Kind == impl.ClaimMove, want, text == ""))
		}
	}
	for _, text := range noNames() {
		for what, j := range houseJobs() {
			j.Stuffs = []string{text}
			checkJob(t, what, j, false)
		}
	}
	p := fullPlant()
	for many := range 9 {
		m := impl.CtlMaster{Last: 1, Left: leftIn(p, ""), Jobs: []impl.CtlJob{moveJob(1, "p11 v11 p12", strings.Join(p.Stuffs[:many], " "), 1)}}
		checkMaster(t, "so many stuffs", p, m, many >= 1)
	}
}

func TestAmountsOfJobs(t *testing.T) {
	for _, amount := range []int{math.MinInt, -1, 0, 1, 2, 21, 41, 999, 1000, 1001, 1 << 32, math.MaxInt} {
		for what, j := range houseJobs() {
			j.Amount = amount
			checkJob(t, what, j, choose(j.Kind == impl.ClaimMove, amount >= 1 && amount <= 1000, amount == 0))
		}
	}
}

func TestJobsWithWhatOthersHave(t *testing.T) {
	for what, from := range houseJobs() {
		isMove := from.Kind == impl.ClaimMove
		if isMove {
			for _, list := range [][]string{{"barn"}, {"tun"}, {""}, {"j", "k"}, {"none"}} {
				j := from
				j.Places = list
				checkJob(t, what+" with places", j, false)
			}
			continue
		}
		for _, r := range []impl.PlantRoute{route("tun f keg"), {Places: []string{""}}, {Valves: []string{""}}, {Places: []string{"tun"}}, {Valves: []string{"f"}}} {
			j := from
			j.Route = r
			checkJob(t, what+" with a route", j, false)
		}
	}
	for what, j := range houseJobs() {
		if j.Kind == impl.ClaimMove {
			j.Places = []string{}
		} else {
			j.Route, j.Stuffs = impl.PlantRoute{Places: []string{}, Valves: []string{}}, []string{}
		}
		j.Heard = []string{}
		checkJob(t, what+" with empty lists", j, true)
	}
}

func TestHeardOfJobs(t *testing.T) {
	all := append(impl.CtlStations(house()), "none", "")
	for what, from := range houseJobs() {
		asked := askedBy(what)
		for _, state := range allStates() {
			for bits := range 1 << len(all) {
				heard := pick(all, bits)
				slices.Sort(heard)
				isAsked := !slices.ContainsFunc(heard, func(s string) bool { return !slices.Contains(asked, s) })
				want := isAsked && len(heard) < len(asked) && (state != impl.CtlRunning || len(heard) == 0)
				j := from
				j.State, j.Heard = state, heard
				checkJob(t, fmt.Sprintf("%s, of which %q are heard in %d", what, heard, state), j, want)
			}
			for _, list := range swapped(asked[:len(asked)-1]) {
				j := from
				j.State, j.Heard = state, list
				checkJob(t, what+" of which they are heard out of order", j, false)
			}
			for _, station := range asked {
				j := from
				j.State, j.Heard = state, []string{station, station}
				checkJob(t, what+" of which one is heard twice", j, false)
			}
		}
	}
}

func TestMovedOfJobs(t *testing.T) {
	for what, from := range houseJobs() {
		most := choose(from.Kind == impl.ClaimMove, from.Amount, choose(from.Kind == impl.ClaimClean, len(askedBy(what)), 0))
		for _, state := range allStates() {
			for _, moved := range []int{math.MinInt, -1, 0, 1, 2, 3, 4, 5, 6, 7, 999, 1000, 1001, 1 << 32, math.MaxInt} {
				for _, heard := range []string{"", strings.Join(askedBy(what)[1:], " ")} {
					if state == impl.CtlRunning && heard != "" {
						continue
					}
					want := moved == 0 || state >= impl.CtlHalting && moved > 0 && moved <= most
					checkJob(t, fmt.Sprintf("%s that moved %d in %d", what, moved, state), in(state, heard, moved, from), want)
				}
			}
		}
	}
}

func TestDoneOfJobs(t *testing.T) {
	for what, from := range houseJobs() {
		for _, state := range allStates() {
			for moved := range 6 {
				ok := impl.CtlMasterOk(house(), ofHouse(in(state, "", moved, from)))
				want := ok && from.Kind == impl.ClaimClean && state == impl.CtlEnding
				checkJob(t, fmt.Sprintf("%s that is done in %d", what, state), done(in(state, "", moved, from)), want)
			}
		}
	}
}

func TestJobsThatUseOnePlace(t *testing.T) {
	p := house()
	ways := map[string]impl.CtlJob{}
	for _, way := range []string{"tun f keg", "keg f tun", "tun a j b k c keg", "tun a j d vat", "keg e vat"} {
		ways[way] = moveJob(1, way, "ale", 1)
	}
	for _, list := range []string{"barn", "j", "k", "tun", "keg", "vat", "m", "j k", "barn keg", "k tun", "barn m"} {
		ways[list] = stillJob(1, impl.ClaimClean, list)
	}
	placesOf := func(j impl.CtlJob) []string { return append(slices.Clone(j.Places), j.Route.Places...) }
	apart, shared := 0, 0
	for a, one := range ways {
		for b, other := range ways {
			for _, kind := range []int{impl.ClaimClean, impl.ClaimPermit} {
				if other.Kind != impl.ClaimMove {
					other.Kind = kind
				}
				other.Number = 2
				want := !slices.ContainsFunc(placesOf(one), func(place string) bool { return slices.Contains(placesOf(other), place) })
				checkMaster(t, a+" and "+b, p, ofHouse(one, other), want)
				third := stillJob(3, impl.ClaimPermit, "barn")
				last := other
				last.Number = 4
				if !slices.Contains(placesOf(one), "barn") && !slices.Contains(placesOf(other), "barn") {
					checkMaster(t, a+" and "+b+", one between", p, ofHouse(one, third, last), want)
				}
				apart, shared = apart+choose(want, 1, 0), shared+choose(want, 0, 1)
			}
		}
	}
	if apart < 50 || shared < 50 {
		t.Errorf("%d apart, %d not", apart, shared)
	}
	// Valves, and stations, may be those of two jobs.
	checkMaster(t, "one valve is kept shut by two", p, ofHouse(stillJob(1, impl.ClaimClean, "j"), stillJob(2, impl.ClaimPermit, "k")), true)
	checkMaster(t, "one opens what the other keeps shut", p, ofHouse(moveJob(1, "tun f keg", "ale", 1), stillJob(2, impl.ClaimClean, "j")), true)
}

// jobAsksByDefinition reads the chapter a second time.
func jobAsksByDefinition(p impl.Plant, j impl.CtlJob) []impl.CtlAsk {
	if j.Kind == 1 {
		return routeAsksByDefinition(p, j.Number, j.Route, j.Stuffs, j.Amount)
	}
	return placeAsksByDefinition(p, j.Number, j.Kind, j.Places)
}

// askedByDefinition is the stations that a job asks, and whether all that is asked is ok.
func askedByDefinition(p impl.Plant, j impl.CtlJob) (stations []string, ok bool) {
	ok = true
	for _, a := range jobAsksByDefinition(p, j) {
		stations = append(stations, a.Station)
		ok = ok && wantByDefinition(a.Want)
	}
	return stations, ok && len(stations) > 0
}

// amongByDefinition says whether a list is some of another one, in its order.
func amongByDefinition(list, of []string) bool {
	rest := of
	for _, text := range list {
		at := slices.Index(rest, text)
		if at < 0 {
			return false
		}
		rest = rest[at+1:]
	}
	return true
}

func jobByDefinition(p impl.Plant, j impl.CtlJob) bool {
	asked, ok := askedByDefinition(p, j)
	if !ok || !amongByDefinition(j.Heard, asked) || len(j.Heard) == len(asked) {
		return false
	}
	most := map[[2]int]int{{1, 3}: j.Amount, {1, 4}: j.Amount, {2, 3}: len(asked), {2, 4}: len(asked)}[[2]int{j.Kind, j.State}]
	if j.State < 1 || j.State > 4 || j.State == 2 && len(j.Heard) > 0 || j.Moved < 0 || j.Moved > most || j.Done && (j.Kind != 2 || j.State != 4) {
		return false
	}
	if j.Kind == 1 {
		return amongByDefinition(j.Stuffs, p.Stuffs) && len(j.Places) == 0
	}
	return len(j.Route.Places)+len(j.Route.Valves)+len(j.Stuffs) == 0 && j.Amount == 0
}

func masterByDefinition(p impl.Plant, m impl.CtlMaster) bool {
	if !impl.PlantValid(p) || m.Last < 0 || m.Last > 1000000 || len(m.Jobs) > 4 {
		return false
	}
	var told []string
	for _, l := range m.Left {
		told = append(told, l.Place)
		if !amongByDefinition(l.Stuffs, p.Stuffs) {
			return false
		}
	}
	last, used := 0, map[string]int{}
	for _, j := range m.Jobs {
		if j.Number <= last || j.Number > m.Last || !jobByDefinition(p, j) {
			return false
		}
		last = j.Number
		for _, place := range slices.Concat(j.Places, j.Route.Places) {
			if used[place]++; used[place] > 1 {
				return false
			}
		}
	}
	return slices.Equal(told, namesOfPlaces(p))
}

func TestAllShortJobs(t *testing.T) {
	p := smallPlant()
	ok := 0
	for kind := range 5 {
		for _, places := range [][]string{nil, {"j"}, {"keg"}, {"j", "tun"}} {
			for _, r := range routes("", "tun c keg") {
				for _, stuffs := range [][]string{nil, {"ale"}} {
					for state := range 6 {
						for moved := -1; moved <= 3; moved++ {
							eachOf([]string{"east", "west"}, 2, func(heard []string) {
								for i := range 6 {
									j := impl.CtlJob{Number: 1, Kind: kind, Places: places, Route: r, Stuffs: stuffs, Amount: i / 2, State: state, Moved: moved, Heard: heard, Done: i%2 == 1}
									m := impl.CtlMaster{Last: 1, Left: leftIn(p, ""), Jobs: []impl.CtlJob{j}}
									want := jobByDefinition(p, j)
									checkMaster(t, "short", p, m, want)
									ok += choose(want, 1, 0)
								}
							})
						}
					}
				}
			}
		}
	}
	if ok < 100 {
		t.Errorf("%d are ok", ok)
	}
}

func TestMastersOfWhichOneThingIsChanged(t *testing.T) {
	ok, not := 0, 0
	for what, from := range someMasters() {
		eachWithOneChange(from, textsOfAll(from), func(r ruled) {
			want := masterByDefinition(r.Plant, r.Master)
			checkMaster(t, what+", one thing", r.Plant, r.Master, want)
			ok, not = ok+choose(want, 1, 0), not+choose(want, 0, 1)
		})
	}
	if ok < 1000 || not < 1000 {
		t.Errorf("%d are ok, %d not", ok, not)
	}
}

func TestMastersOfWhichTwoThingsAreChanged(t *testing.T) {
	p := house()
	texts := []string{"", "east", "far", "ale", "j", "tun"}
	for _, j := range []impl.CtlJob{
		in(impl.CtlHalting, "east west", 2, moveJob(1, "tun f keg", "ale", 2)),
		done(in(impl.CtlEnding, "far", 2, stillJob(1, impl.ClaimClean, "m vat"))),
		in(impl.CtlRunning, "", 0, stillJob(1, impl.ClaimPermit, "barn")),
	} {
		ok := 0
		eachWithOneChange(j, texts, func(once impl.CtlJob) {
			eachWithOneChange(once, texts, func(twice impl.CtlJob) {
				m := ofHouse()
				m.Last, m.Jobs = 1, []impl.CtlJob{twice}
				want := masterByDefinition(p, m)
				checkMaster(t, "two things", p, m, want)
				ok += choose(want, 1, 0)
			})
		})
		if ok < 20 {
			t.Errorf("%d are ok: %+v", ok, j)
		}
	}
}

// spoiltMasters is books that are not ok, each by one thing.
func spoiltMasters() []ruled {
	all := []ruled{{house(), impl.CtlMaster{}}, {impl.Plant{}, busyHouse()}, {spoilt()[0], impl.CtlMaster{Left: leftIn(smallPlant(), "")}}}
	for _, f := range []func(m *impl.CtlMaster){
		func(m *impl.CtlMaster) { m.Last = -1 },
		func(m *impl.CtlMaster) { m.Last = 11 },
		func(m *impl.CtlMaster) { m.Last = impl.ClaimMaxNumber + 1 },
		func(m *impl.CtlMaster) { m.Left = m.Left[1:] },
		func(m *impl.CtlMaster) { m.Left[0].Place = "none" },
		func(m *impl.CtlMaster) { m.Left[2].Stuffs = []string{"water", "ale"} },
		func(m *impl.CtlMaster) { m.Jobs[0].Moved = 6 },
		func(m *impl.CtlMaster) { m.Jobs[0].Heard = []string{"east", "guard", "west"} },
		func(m *impl.CtlMaster) { m.Jobs[1].State = 5 },
		func(m *impl.CtlMaster) { m.Jobs[1].Number = 9 },
		func(m *impl.CtlMaster) { m.Jobs[2].Done = true },
		func(m *impl.CtlMaster) { m.Jobs[2].Heard = []string{"far"} },
		func(m *impl.CtlMaster) { m.Jobs[3].Places = []string{"barn", "tun"} },
		func(m *impl.CtlMaster) { m.Jobs[3].Amount = 1 },
	} {
		m := busyHouse()
		f(&m)
		all = append(all, ruled{house(), m})
	}
	return all
}

func TestMastersAreNotWrittenInto(t *testing.T) {
	all := spoiltMasters()
	for _, from := range someMasters() {
		all = append(all, from)
	}
	for _, from := range all {
		r := withRoom(from)
		was := withWhatIsBehind(r)
		first := impl.CtlMasterOk(r.Plant, r.Master)
		checkMaster(t, "a second time", r.Plant, r.Master, first)
		checkMaster(t, "without room", from.Plant, from.Master, first)
		for i, j := range r.Master.Jobs {
			asks := impl.CtlJobAsks(r.Plant, j)
			checkJobAsks(t, "without room", from.Plant, from.Master.Jobs[i], asks...)
			checkOwnMemory(t, "CtlJobAsks", asks, r)
			checkOwnLists(t, "CtlJobAsks", asks, r)
		}
		if !reflect.DeepEqual(withWhatIsBehind(r), was) {
			t.Errorf("the arguments became %+v", withWhatIsBehind(r))
		}
	}
}

// longMasters is books with very long lists, of which none is ok.
func longMasters() map[string]ruled {
	long := 20000
	names := numbered("s", long)
	all := map[string]ruled{
		"a long plant": {impl.Plant{Stuffs: names}, impl.CtlMaster{}},
	}
	for what, f := range map[string]func(m *impl.CtlMaster){
		"jobs":         func(m *impl.CtlMaster) { m.Jobs = slices.Repeat(m.Jobs[:1], long) },
		"left":         func(m *impl.CtlMaster) { m.Left = slices.Repeat(m.Left[:1], long) },
		"left stuffs":  func(m *impl.CtlMaster) { m.Left[0].Stuffs = names },
		"stuffs twice": func(m *impl.CtlMaster) { m.Left[0].Stuffs = slices.Repeat([]string{"ale"}, long) },
		"heard": func(m *impl.CtlMaster) {
			for i := range m.Jobs {
				m.Jobs[i].Heard = names
			}
		},
		"heard twice": func(m *impl.CtlMaster) { m.Jobs[0].Heard = slices.Repeat([]string{"east"}, long) },
		"places": func(m *impl.CtlMaster) {
			for i := range m.Jobs {
				m.Jobs[i] = impl.CtlJob{Number: m.Jobs[i].Number, Kind: impl.ClaimClean, State: 1, Places: names}
			}
		},
		"places of a move": func(m *impl.CtlMaster) { m.Jobs[0].Places = names },
		"stuffs of a move": func(m *impl.CtlMaster) { m.Jobs[0].Stuffs = names },
		"routes": func(m *impl.CtlMaster) {
			for i := range m.Jobs {
				m.Jobs[i] = impl.CtlJob{Number: m.Jobs[i].Number, Kind: impl.ClaimMove, State: 1, Route: impl.PlantRoute{Places: names, Valves: names[1:]}, Stuffs: []string{"ale"}, Amount: 1}
			}
		},
		"there and back": func(m *impl.CtlMaster) {
			m.Jobs[0].Route = impl.PlantRoute{Places: slices.Repeat([]string{"tun", "keg"}, long), Valves: slices.Repeat([]string{"f"}, 2*long-1)}
		},
	} {
		m := busyHouse()
		f(&m)
		all[what] = ruled{house(), m}
	}
	return all
}

func TestMastersOfVeryLongLists(t *testing.T) {
	for what, r := range longMasters() {
		checkMaster(t, what, r.Plant, r.Master, false)
	}
}

// drawnJob draws one that is ok and uses none of some places; false, if it found none.
func drawnJob(dice *rand.Rand, p impl.Plant, number int, used []string) (impl.CtlJob, bool) {
	j := impl.CtlJob{Number: number, Kind: 1 + dice.Intn(3), State: 1 + dice.Intn(4)}
	free := slices.DeleteFunc(namesOfPlaces(p), func(place string) bool { return slices.Contains(used, place) })
	if j.Kind == impl.ClaimMove {
		all := allRoutes(p)
		if len(all) == 0 {
			return j, false
		}
		j.Route, j.Amount, j.Stuffs = all[dice.Intn(len(all))], 1+dice.Intn(9), pick(p.Stuffs, dice.Intn(256))
	} else {
		for _, i := range dice.Perm(len(free))[:min(len(free), 1+dice.Intn(3))] {
			j.Places = append(j.Places, free[i])
		}
		slices.Sort(j.Places)
	}
	asked, ok := askedByDefinition(p, j)
	if !ok || slices.ContainsFunc(j.Route.Places, func(place string) bool { return slices.Contains(used, place) }) {
		return j, false
	}
	if j.State != impl.CtlRunning {
		j.Heard = pick(asked, dice.Intn(1<<len(asked)-1))
	}
	if j.State >= impl.CtlHalting {
		j.Moved = dice.Intn(map[int]int{1: j.Amount, 2: len(asked), 3: 0}[j.Kind] + 1)
	}
	j.Done = j.Kind == impl.ClaimClean && j.State == impl.CtlEnding && dice.Intn(2) == 0
	return j, true
}

// drawnMaster draws a book that is ok, as it may not come about.
func drawnMaster(dice *rand.Rand, p impl.Plant) impl.CtlMaster {
	var m impl.CtlMaster
	var used []string
	for range dice.Intn(8) {
		j, ok := drawnJob(dice, p, m.Last+1+dice.Intn(3), used)
		if ok && len(m.Jobs) < impl.CtlMaxJobs {
			m.Jobs, m.Last = append(m.Jobs, j), j.Number
			used = slices.Concat(used, j.Places, j.Route.Places)
		}
	}
	m.Last = min(m.Last+dice.Intn(2), impl.ClaimMaxNumber)
	for _, name := range namesOfPlaces(p) {
		m.Left = append(m.Left, impl.CtlLeft{Place: name, Stuffs: pick(p.Stuffs, dice.Intn(32)&dice.Intn(32))})
	}
	return m
}

func TestDrawnMasters(t *testing.T) {
	dice := rand.New(rand.NewSource(33))
	jobs, ok := 0, 0
	for range 2000 {
		p := somePlant(dice)
		m := drawnMaster(dice, p)
		checkMaster(t, "drawn", p, m, true)
		if !masterByDefinition(p, m) {
			t.Errorf("not ok: %+v in %+v", m, p)
		}
		for _, j := range m.Jobs {
			checkJobAsks(t, "drawn", p, j, jobAsksByDefinition(p, j)...)
		}
		jobs += len(m.Jobs)
		q := somePlant(dice)
		want := masterByDefinition(q, m)
		checkMaster(t, "in another plant", q, m, want)
		ok += choose(want, 1, 0)
	}
	if jobs < 2000 || ok < 5 {
		t.Errorf("%d jobs were drawn, %d are ok in another plant", jobs, ok)
	}
}

// What one call was given must not be seen in the next one, nor in one beside it.
func TestMastersKeepNothing(t *testing.T) {
	all := someMasters()
	not := spoiltMasters()
	var callers sync.WaitGroup
	for range 8 {
		callers.Go(func() {
			for i := range 10 {
				for what, r := range all {
					checkMaster(t, what, r.Plant, r.Master, true)
				}
				checkMaster(t, "not ok", not[i].Plant, not[i].Master, false)
			}
		})
	}
	callers.Wait()
}
