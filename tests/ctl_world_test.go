package tests

import (
	"fmt"
	"maps"
	"math"
	"math/rand"
	"reflect"
	"runtime"
	"slices"
	"strconv"
	"strings"
	"sync"
	"testing"

	"loop.example/malthouse/impl"
)

func checkWorld(t *testing.T, what string, w impl.CtlWorld, want bool) {
	t.Helper()
	if got := impl.CtlWorldOk(w); got != want {
		t.Errorf("%s: CtlWorldOk = %v; want %v: %+v", what, got, want, w)
	}
}

func checkOpened(t *testing.T, what string, w impl.CtlWorld, want ...string) {
	t.Helper()
	if got := impl.CtlOpen(w); !slices.Equal(got, want) {
		t.Errorf("%s: CtlOpen = %q; want %q: %+v", what, got, want, w)
	}
}

// begun is a new world, which must be one.
func begun(p impl.Plant, fills ...impl.CtlFill) impl.CtlWorld {
	w, ok := impl.CtlNew(p, fills)
	if !ok {
		panic(fmt.Sprint(p, fills))
	}
	return w
}

// otherWorld is a world of which something is another one.
func otherWorld(w impl.CtlWorld, change func(w *impl.CtlWorld)) impl.CtlWorld {
	w = copied(w)
	change(&w)
	return w
}

// atStation is a station of a world, by its name.
func atStation(w *impl.CtlWorld, name string) *impl.CtlStation {
	return &w.Stations[slices.Index(stationsByDefinition(w.Plant), name)]
}

// grantAll lets all stations that a job asks grant it, in mind and on disk, and have it in On, if it runs.
func grantAll(w *impl.CtlWorld, j impl.CtlJob) {
	for _, a := range jobAsksByDefinition(w.Plant, j) {
		s := atStation(w, a.Station)
		mind, code := grantByDefinition(s.Mind, a.Want)
		if code != 0 {
			panic(fmt.Sprint(code, a))
		}
		s.Mind, s.Disk = mind, copied(mind)
		if j.State == impl.CtlRunning {
			s.On = append(s.On, j.Number)
		}
	}
}

// cellarMove is a move in the cellar of which east pumps out of the keg, west opens, too, and turn keeps shut.
func cellarMove() impl.CtlJob {
	return in(impl.CtlRunning, "", 0, moveJob(3, "keg b j a tun", "ale", 5))
}

// busyCellar has a move of which two were moved, a permit on which somebody works, a cleaning that was done, and words under way and to be said of each kind.
func busyCellar() impl.CtlWorld {
	w := begun(cellar(), fill("l1", "ale", "keg", 12), fill("m1", "malt", "tun", 3))
	jobs := []impl.CtlJob{cellarMove(), in(impl.CtlRunning, "", 0, stillJob(4, impl.ClaimPermit, "k")), in(impl.CtlRunning, "", 0, stillJob(6, impl.ClaimClean, "vat"))}
	for _, j := range jobs {
		grantAll(&w, j)
	}
	left := leftIn(w.Plant, "keg:ale tun:ale,malt j:ale")
	w.Mind, w.Disk = impl.CtlMaster{Last: 7, Jobs: copied(jobs), Left: left}, impl.CtlMaster{Last: 6, Jobs: copied(jobs), Left: left}
	w.Mind.Jobs[2] = in(impl.CtlHalting, "mid", 1, w.Mind.Jobs[2])
	w.Stuff, _ = stepByDefinition(w.Stuff, moves("keg", "tun", 2))
	w.Wet = leftIn(w.Plant, "keg:ale tun:ale,malt j:ale k:lye,malt")
	w.Meters = []impl.CtlMeter{{Number: 1, Station: "west", Moved: 1000}, {Number: 3, Station: "east", Moved: 2}, {Number: 6, Station: "mid", Moved: 1}, {Number: 6, Station: "turn", Moved: 1}}
	w.Inside, w.Tags = []int{4}, []int{1, 2}
	w.Radio = []impl.CtlWord{asked("west", permitOf(9, "tun", "a")), said(impl.CtlGoes, "east", 3, 0), said(impl.CtlStops, "turn", 6, 0), over("mid", 2, 5, true), said(impl.CtlEnter, "", 4, 0), said(impl.CtlSigned, "", 2, 0), said(impl.CtlStopped, "turn", 6, 1)}
	w.Out = []impl.CtlWord{said(impl.CtlEnter, "", 4, 0), said(impl.CtlGoes, "west", 3, 0)}
	atStation(&w, "turn").Out = []impl.CtlWord{said(impl.CtlGrants, "turn", 6, 0), said(impl.CtlDenies, "turn", 7, 0)}
	atStation(&w, "east").Out = []impl.CtlWord{said(impl.CtlGone, "east", 2, 0)}
	return w
}

// fallen is a world of which some computers are not up: 0 is the master.
func fallen(w impl.CtlWorld, computers ...int) impl.CtlWorld {
	w = copied(w)
	for _, at := range computers {
		if at == 0 {
			w.Up, w.Mind, w.Out = false, impl.CtlMaster{}, nil
		} else {
			w.Stations[at-1] = impl.CtlStation{Disk: w.Stations[at-1].Disk}
		}
	}
	return w
}

// fullCellar has as much of everything as may be.
func fullCellar() impl.CtlWorld {
	w := busyCellar()
	w.Meters = nil
	for i := range impl.CtlMaxMeters {
		w.Meters = append(w.Meters, impl.CtlMeter{Number: 1 + i*16949, Station: []string{"east", "mid", "turn", "west"}[i%4], Moved: 1 + i*16})
	}
	w.Meters[59].Number, w.Meters[59].Moved = impl.ClaimMaxNumber, impl.ClaimMaxCap
	full := slices.Repeat(w.Radio[:6], 10)
	w.Radio, w.Out = full, full
	for i := range w.Stations {
		w.Stations[i].Out = full
	}
	w.Inside, w.Tags = []int{1, 3, impl.ClaimMaxNumber}, []int{2, 4, 999999}
	for i := range w.Wet {
		w.Wet[i].Stuffs = []string{"ale", "lye", "malt"}
	}
	w.Spilt = true
	return copied(w)
}

// sixParts has one station with as many parts as there can be, all of them on.
func sixParts() impl.CtlWorld {
	p := written("stuff ale", "vessel a 9 e", "vessel b 9 e", "vessel c 9 e", "vessel d 9 e", "vessel f 9 e", "vessel g 9 e", "vessel h 9 e")
	w := begun(p)
	for i, place := range namesOfPlaces(p)[:6] {
		grantAll(&w, in(impl.CtlRunning, "", 0, stillJob(i+1, impl.ClaimPermit, place)))
	}
	return w
}

// someWorlds is worlds that are ok, each in a way of its own.
func someWorlds() map[string]impl.CtlWorld {
	all := map[string]impl.CtlWorld{
		"nothing but up":    {Up: true},
		"nothing":           {},
		"empty lists":       {Stuff: impl.StuffBook{Foes: []impl.StuffFoe{}, Lots: []impl.StuffLot{}, Vessels: []impl.StuffVessel{}, Outs: []impl.StuffOut{}}, Wet: []impl.CtlLeft{}, Meters: []impl.CtlMeter{}, Mind: impl.CtlMaster{Jobs: []impl.CtlJob{}, Left: []impl.CtlLeft{}}, Out: []impl.CtlWord{}, Stations: []impl.CtlStation{}, Inside: []int{}, Tags: []int{}, Radio: []impl.CtlWord{}},
		"new":               begun(cellar()),
		"filled":            begun(cellar(), fill("l1", "ale", "keg", 12), fill("m1", "malt", "tun", 3)),
		"busy":              busyCellar(),
		"full":              fullCellar(),
		"six parts":         sixParts(),
		"the master fell":   fallen(busyCellar(), 0),
		"all stations fell": fallen(busyCellar(), 1, 2, 3, 4),
		"all fell":          fallen(busyCellar(), 0, 1, 2, 3, 4),
		"one station":       begun(written("stuff ale", "vessel a 5 e", "vessel b 5 e", "valve v a b e"), fill("l", "ale", "a", 5)),
		"lots of no stuff":  otherWorld(begun(cellar()), func(w *impl.CtlWorld) { w.Stuff.Lots = lots("x:none") }),
		"a disk of other days": otherWorld(busyCellar(), func(w *impl.CtlWorld) {
			w.Disk, w.Stations[0].Disk = begun(cellar()).Disk, begun(cellar()).Stations[0].Disk
		}),
		"nobody works": otherWorld(busyCellar(), func(w *impl.CtlWorld) { w.Inside, w.Tags = nil, nil }),
		"empty lists of who fell": otherWorld(fallen(busyCellar(), 0, 2), func(w *impl.CtlWorld) {
			w.Mind, w.Out = impl.CtlMaster{Jobs: []impl.CtlJob{}, Left: []impl.CtlLeft{}}, []impl.CtlWord{}
			w.Stations[1].Mind = impl.ClaimBook{Foes: []impl.ClaimFoe{}, Spots: []impl.ClaimSpot{}, Valves: []string{}, Parts: []impl.ClaimPart{}}
			w.Stations[1].On, w.Stations[1].Out = []int{}, []impl.CtlWord{}
		}),
	}
	for at := range 5 {
		all["computer "+strconv.Itoa(at)+" fell"] = fallen(busyCellar(), at)
	}
	return all
}

func TestWorldsThatAreOk(t *testing.T) {
	for what, w := range someWorlds() {
		checkWorld(t, what, w, true)
		if !worldByDefinition(w) {
			t.Errorf("%s is not ok, by reading", what)
		}
	}
}

// badWords is words that are not ok in the cellar.
func badWords() []impl.CtlWord {
	return []impl.CtlWord{{}, said(impl.CtlGoes, "none", 3, 0), said(impl.CtlGoes, "east", 0, 0), said(impl.CtlGoes, "east", 1000001, 0), said(impl.CtlGoes, "east", 3, 1), said(impl.CtlEnter, "east", 3, 0), said(11, "east", 3, 0), said(impl.CtlAsks, "east", 3, 0), over("east", 3, 1001, false)}
}

// spoiltStuff is worlds whose plant, or whose vessels, are not as they must be.
func spoiltStuff() map[string]func(w *impl.CtlWorld) {
	return map[string]func(w *impl.CtlWorld){
		"another plant":          func(w *impl.CtlWorld) { w.Plant = house() },
		"no plant":               func(w *impl.CtlWorld) { w.Plant = impl.Plant{} },
		"a plant not valid":      func(w *impl.CtlWorld) { w.Plant.Stuffs[0] = "Ale" },
		"a station too many":     func(w *impl.CtlWorld) { w.Plant.Places[0].Station = "fifth" },
		"a stuff less":           func(w *impl.CtlWorld) { w.Plant.Stuffs = w.Plant.Stuffs[:2] },
		"a valve's other hand":   func(w *impl.CtlWorld) { w.Plant.Valves[0].Station = "turn" },
		"stuff not ok":           func(w *impl.CtlWorld) { w.Stuff.Vessels[0].Parts[0].Amount = 21 },
		"a lot twice":            func(w *impl.CtlWorld) { w.Stuff.Lots[1] = w.Stuff.Lots[0] },
		"foes less":              func(w *impl.CtlWorld) { w.Stuff.Foes = nil },
		"foes more":              func(w *impl.CtlWorld) { w.Stuff.Foes = append(w.Stuff.Foes, impl.StuffFoe{A: "lye", B: "malt"}) },
		"other foes":             func(w *impl.CtlWorld) { w.Stuff.Foes[0].B = "wine" },
		"a vessel less":          func(w *impl.CtlWorld) { w.Stuff.Vessels = w.Stuff.Vessels[:2] },
		"a vessel more":          func(w *impl.CtlWorld) { w.Stuff.Vessels = append(w.Stuff.Vessels, vessel("zinc", 3, "", "")) },
		"a joint as a vessel":    func(w *impl.CtlWorld) { w.Stuff.Vessels = slices.Insert(w.Stuff.Vessels, 0, vessel("j", 3, "", "")) },
		"a vessel's other name":  func(w *impl.CtlWorld) { w.Stuff.Vessels[2].Name = "vau" },
		"a vessel's other cap":   func(w *impl.CtlWorld) { w.Stuff.Vessels[2].Cap = 10 },
		"something was taken":    func(w *impl.CtlWorld) { w.Stuff.Outs = []impl.StuffOut{out("cup", "", "")} },
		"wet less":               func(w *impl.CtlWorld) { w.Wet = w.Wet[:4] },
		"wet more":               func(w *impl.CtlWorld) { w.Wet = append(w.Wet, impl.CtlLeft{Place: "zinc"}) },
		"wet nowhere":            func(w *impl.CtlWorld) { w.Wet = nil },
		"wet in another order":   func(w *impl.CtlWorld) { w.Wet[0], w.Wet[1] = w.Wet[1], w.Wet[0] },
		"wet elsewhere":          func(w *impl.CtlWorld) { w.Wet[2].Place = "kek" },
		"wet with no stuff":      func(w *impl.CtlWorld) { w.Wet[4].Stuffs = []string{"l1"} },
		"wet backwards":          func(w *impl.CtlWorld) { w.Wet[3].Stuffs = []string{"malt", "ale"} },
		"wet twice":              func(w *impl.CtlWorld) { w.Wet[3].Stuffs = []string{"ale", "ale"} },
		"a meter's number low":   func(w *impl.CtlWorld) { w.Meters[0].Number = 0 },
		"a meter's number high":  func(w *impl.CtlWorld) { w.Meters[3].Number = 1000001 },
		"a meter of nobody":      func(w *impl.CtlWorld) { w.Meters[1].Station = "none" },
		"a meter of no name":     func(w *impl.CtlWorld) { w.Meters[1].Station = "" },
		"a meter at 0":           func(w *impl.CtlWorld) { w.Meters[2].Moved = 0 },
		"a meter at -1":          func(w *impl.CtlWorld) { w.Meters[2].Moved = -1 },
		"a meter too high":       func(w *impl.CtlWorld) { w.Meters[0].Moved = 1001 },
		"meters backwards":       func(w *impl.CtlWorld) { w.Meters[0].Number = 4 },
		"a meter twice":          func(w *impl.CtlWorld) { w.Meters[3].Station = "mid" },
		"stations backwards":     func(w *impl.CtlWorld) { w.Meters[3].Station = "east" },
		"nobody inside":          func(w *impl.CtlWorld) { w.Inside = []int{0} },
		"too far inside":         func(w *impl.CtlWorld) { w.Inside = []int{1000001} },
		"inside twice":           func(w *impl.CtlWorld) { w.Inside = []int{4, 4} },
		"inside backwards":       func(w *impl.CtlWorld) { w.Inside = []int{5, 4} },
		"tagged as nobody":       func(w *impl.CtlWorld) { w.Tags = []int{0, 2} },
		"tagged below":           func(w *impl.CtlWorld) { w.Tags = []int{-1, 2} },
		"tagged too far":         func(w *impl.CtlWorld) { w.Tags = []int{1, 1000001} },
		"tagged twice":           func(w *impl.CtlWorld) { w.Tags = []int{2, 2} },
		"tagged backwards":       func(w *impl.CtlWorld) { w.Tags = []int{2, 1} },
		"inside and tagged":      func(w *impl.CtlWorld) { w.Tags = []int{1, 4} },
		"inside and tagged last": func(w *impl.CtlWorld) { w.Inside, w.Tags = []int{3, 4, 9}, []int{1, 2, 9} },
		"tagged and inside":      func(w *impl.CtlWorld) { w.Inside = []int{1, 4} },
	}
}

// spoiltComputers is worlds of which one computer is not as it must be; the master, east and west are up, mid and turn have fallen.
func spoiltComputers() map[string]func(w *impl.CtlWorld) {
	return map[string]func(w *impl.CtlWorld){
		"the master's mind not ok": func(w *impl.CtlWorld) { w.Mind.Last = 2 },
		"the master's disk not ok": func(w *impl.CtlWorld) { w.Disk.Last = -1 },
		"no mind":                  func(w *impl.CtlWorld) { w.Mind = impl.CtlMaster{} },
		"no disk":                  func(w *impl.CtlWorld) { w.Disk = impl.CtlMaster{} },
		"not up with all":          func(w *impl.CtlWorld) { w.Up = false },
		"not up with a last":       func(w *impl.CtlWorld) { w.Up, w.Out, w.Mind = false, nil, impl.CtlMaster{Last: 1} },
		"not up with jobs":         func(w *impl.CtlWorld) { w.Up, w.Out, w.Mind = false, nil, impl.CtlMaster{Jobs: w.Mind.Jobs} },
		"not up with left":         func(w *impl.CtlWorld) { w.Up, w.Out, w.Mind = false, nil, impl.CtlMaster{Left: w.Mind.Left} },
		"not up with out":          func(w *impl.CtlWorld) { w.Up, w.Mind = false, impl.CtlMaster{} },
		"a station less":           func(w *impl.CtlWorld) { w.Stations = w.Stations[:3] },
		"a station more":           func(w *impl.CtlWorld) { w.Stations = append(w.Stations, impl.CtlStation{}) },
		"no stations":              func(w *impl.CtlWorld) { w.Stations = nil },
		"two stations changed":     func(w *impl.CtlWorld) { w.Stations[0], w.Stations[3] = w.Stations[3], w.Stations[0] },
		"a mind not ok":            func(w *impl.CtlWorld) { w.Stations[0].Mind.Seen = 2 },
		"a disk not ok":            func(w *impl.CtlWorld) { w.Stations[0].Disk.Seen = 2 },
		"a mind without foes":      func(w *impl.CtlWorld) { w.Stations[0].Mind.Foes = nil },
		"a disk without foes":      func(w *impl.CtlWorld) { w.Stations[0].Disk.Foes = nil },
		"a mind with more foes": func(w *impl.CtlWorld) {
			w.Stations[0].Mind.Foes = append(w.Stations[0].Mind.Foes, impl.ClaimFoe{A: "x", B: "y"})
		},
		"a mind with other foes":   func(w *impl.CtlWorld) { w.Stations[0].Mind.Foes[0].B = "wine" },
		"a mind with more valves":  func(w *impl.CtlWorld) { w.Stations[3].Mind.Valves = []string{"a", "c"} },
		"a disk with more valves":  func(w *impl.CtlWorld) { w.Stations[3].Disk.Valves = []string{"a", "c"} },
		"a disk with no valves":    func(w *impl.CtlWorld) { w.Stations[2].Disk.Valves, w.Stations[2].Disk.Parts = nil, nil },
		"a disk with other valves": func(w *impl.CtlWorld) { w.Stations[2].Disk.Valves = []string{"c", "d", "e"} },
		"a mind with other caps":   func(w *impl.CtlWorld) { w.Stations[3].Mind.Spots[1].Cap = 41 },
		"a disk with other caps":   func(w *impl.CtlWorld) { w.Stations[1].Disk.Spots[1].Cap = 8 },
		"a mind with more spots": func(w *impl.CtlWorld) {
			w.Stations[3].Mind.Spots = append(w.Stations[3].Mind.Spots, spot("vat", 9, 0, 0, ""))
		},
		"a disk with less spots":  func(w *impl.CtlWorld) { w.Stations[1].Disk.Spots, w.Stations[1].Disk.Parts = nil, nil },
		"a disk with other spots": func(w *impl.CtlWorld) { w.Stations[1].Disk.Spots[1].Name, w.Stations[1].Disk.Parts = "vau", nil },
		"on without a part":       func(w *impl.CtlWorld) { w.Stations[0].On = []int{3, 5} },
		"on with a stopped part":  func(w *impl.CtlWorld) { w.Stations[0].Mind.Parts[0].Stopped = true },
		"on twice":                func(w *impl.CtlWorld) { w.Stations[0].On = []int{3, 3} },
		"on with 0":               func(w *impl.CtlWorld) { w.Stations[0].On = []int{0, 3} },
		"not up and up":           func(w *impl.CtlWorld) { w.Stations[3].Up = false },
		"up and nothing":          func(w *impl.CtlWorld) { w.Stations[1].Up = true },
		"not up with on":          func(w *impl.CtlWorld) { w.Stations[1].On = []int{4} },
		"not up with words":       func(w *impl.CtlWorld) { w.Stations[1].Out = w.Out[1:] },
		"not up with seen":        func(w *impl.CtlWorld) { w.Stations[1].Mind.Seen = 1 },
		"not up with mind":        func(w *impl.CtlWorld) { w.Stations[1].Mind = w.Stations[1].Disk },
		"not up with foes":        func(w *impl.CtlWorld) { w.Stations[1].Mind.Foes = claimFoes("ale/lye") },
		"not up with valves":      func(w *impl.CtlWorld) { w.Stations[2].Mind.Valves = []string{"c", "d"} },
		"not up with spots":       func(w *impl.CtlWorld) { w.Stations[1].Mind.Spots = w.Stations[1].Disk.Spots },
		"not up with parts":       func(w *impl.CtlWorld) { w.Stations[1].Mind.Parts = w.Stations[1].Disk.Parts },
		"fallen with no disk":     func(w *impl.CtlWorld) { w.Stations[1].Disk = impl.ClaimBook{} },
	}
}

// spoiltWorlds is worlds that are not ok, each by one thing.
func spoiltWorlds() map[string]impl.CtlWorld {
	all := map[string]impl.CtlWorld{}
	for what, change := range spoiltStuff() {
		all[what] = otherWorld(busyCellar(), change)
	}
	for what, change := range spoiltComputers() {
		all[what] = otherWorld(fallen(busyCellar(), 2, 3), change)
	}
	for i, bad := range badWords() {
		for what, at := range map[string]func(w *impl.CtlWorld) *[]impl.CtlWord{
			"on the radio": func(w *impl.CtlWorld) *[]impl.CtlWord { return &w.Radio }, "of the master": func(w *impl.CtlWorld) *[]impl.CtlWord { return &w.Out },
			"of a station": func(w *impl.CtlWorld) *[]impl.CtlWord { return &w.Stations[3].Out },
		} {
			w := busyCellar()
			*at(&w) = append(*at(&w), bad)
			all[fmt.Sprint("bad word ", i, " ", what)] = w
		}
	}
	return all
}

func TestWorldsThatAreNotOk(t *testing.T) {
	checkWorld(t, "two fell", fallen(busyCellar(), 2, 3), true)
	for what, w := range spoiltWorlds() {
		checkWorld(t, what, w, false)
		if worldByDefinition(w) {
			t.Errorf("%s is ok, by reading", what)
		}
	}
	for i, p := range notValid() {
		checkWorld(t, "not valid "+strconv.Itoa(i), impl.CtlWorld{Plant: p}, false)
	}
	for i, r := range spoiltMasters() {
		w := impl.CtlWorld{Plant: cellar(), Up: true, Mind: r.Master, Disk: r.Master}
		checkWorld(t, "a spoilt master "+strconv.Itoa(i), w, false)
	}
}

func TestWorldsOfOneTooMany(t *testing.T) {
	word := said(impl.CtlGoes, "west", 3, 0)
	for _, at := range []func(w *impl.CtlWorld) *[]impl.CtlWord{
		func(w *impl.CtlWorld) *[]impl.CtlWord { return &w.Radio }, func(w *impl.CtlWorld) *[]impl.CtlWord { return &w.Out },
		func(w *impl.CtlWorld) *[]impl.CtlWord { return &w.Stations[0].Out }, func(w *impl.CtlWorld) *[]impl.CtlWord { return &w.Stations[3].Out },
	} {
		w := fullCellar()
		list := at(&w)
		*list = append(*list, word)
		checkWorld(t, "61 words", w, false)
		*list = (*list)[1:]
		checkWorld(t, "60 words", w, true)
	}
	w := fullCellar()
	w.Meters = slices.Insert(w.Meters, 1, impl.CtlMeter{Number: 2, Station: "east", Moved: 1})
	checkWorld(t, "61 meters", w, false)
	w.Meters = w.Meters[1:]
	checkWorld(t, "60 meters", w, true)
	w = sixParts()
	w.Stations[0].On = append(w.Stations[0].On, 7)
	checkWorld(t, "seven on", w, false)
	for many := range 7 {
		w.Stations[0].On = []int{1, 2, 3, 4, 5, 6}[:many]
		checkWorld(t, "so many on", w, true)
	}
	w.Stations[0].On = []int{1, 2, 3, 4, 6, 5}
	checkWorld(t, "on backwards", w, false)
}

// A number of On is asked for in the mind, and not on the disk.
func TestWhatIsOn(t *testing.T) {
	w := fallen(sixParts())
	s := &w.Stations[0]
	s.Disk = begun(w.Plant).Stations[0].Disk
	checkWorld(t, "not on the disk", w, true)
	for at, number := range []int{1, 2, 3, 4, 5, 6} {
		other := otherWorld(w, func(w *impl.CtlWorld) { w.Stations[0].Mind.Parts[at].Stopped = true })
		checkWorld(t, "stopped", other, false)
		other.Stations[0].On = slices.DeleteFunc(other.Stations[0].On, func(n int) bool { return n == number })
		checkWorld(t, "stopped, and not on", other, true)
		gone := otherWorld(w, func(w *impl.CtlWorld) {
			w.Stations[0].Disk, w.Stations[0].Mind.Parts = copied(w.Stations[0].Mind), slices.Delete(w.Stations[0].Mind.Parts, at, at+1)
		})
		checkWorld(t, "only on the disk", gone, false)
	}
}

func TestAsManyInsideAndTaggedAsThereCanBe(t *testing.T) {
	var odd, even []int
	for number := 1; number <= impl.ClaimMaxNumber; number += 2 {
		odd, even = append(odd, number), append(even, number+1)
	}
	w := begun(cellar())
	w.Inside, w.Tags = odd, even
	checkWorld(t, "all numbers", w, true)
	w.Inside, w.Tags = even, odd
	checkWorld(t, "all numbers", w, true)
	w.Inside, w.Tags = even, even[499999:]
	checkWorld(t, "the last in both", w, false)
	w.Inside, w.Tags = slices.Concat(odd, []int{impl.ClaimMaxNumber + 1}), nil
	checkWorld(t, "one past the end", w, false)
	w.Inside, w.Tags = nil, slices.Repeat([]int{5}, 2*impl.ClaimMaxNumber)
	checkWorld(t, "one for long", w, false)
}

func TestWorldsOfEachNumber(t *testing.T) {
	w := busyCellar()
	for _, number := range []int{math.MinInt, -1, 0, 1, 2, 3, 4, 999999, 1000000, 1000001, 4 + 1<<32, math.MaxInt} {
		is := number >= 1 && number <= 1000000
		w.Inside, w.Tags = []int{number}, nil
		checkWorld(t, "inside", w, is)
		w.Inside, w.Tags = nil, []int{number}
		checkWorld(t, "tagged", w, is)
		w.Tags, w.Meters = nil, []impl.CtlMeter{{Number: number, Station: "east", Moved: 1}}
		checkWorld(t, "a meter", w, is)
		w.Meters = []impl.CtlMeter{{Number: 5, Station: "east", Moved: number}}
		checkWorld(t, "a meter's moved", w, number >= 1 && number <= 1000)
		w.Meters, w.Radio = nil, []impl.CtlWord{said(impl.CtlSigned, "", number, 0)}
		checkWorld(t, "a word", w, is)
		w.Radio = nil
		w.Stations[3].On = []int{number}
		checkWorld(t, "on", w, number == 3)
		w.Stations[3].On = nil
	}
}

func sameFoes(p impl.Plant, have func(i int) (a, b string), many int) bool {
	if many != len(p.Foes) {
		return false
	}
	for i, f := range p.Foes {
		if a, b := have(i); a != f.A || b != f.B {
			return false
		}
	}
	return true
}

// itsByDefinition says whether a book is a station's.
func itsByDefinition(p impl.Plant, station string, b impl.ClaimBook) bool {
	var valves []string
	for _, v := range p.Valves {
		if v.Station == station {
			valves = append(valves, v.Name)
		}
	}
	spots := slices.Clone(b.Spots)
	for _, x := range p.Places {
		if x.Station != station {
			continue
		}
		if len(spots) == 0 || spots[0].Name != x.Name || spots[0].Cap != x.Cap {
			return false
		}
		spots = spots[1:]
	}
	return len(spots) == 0 && slices.Equal(valves, b.Valves) && claimsByDefinition(b) &&
		sameFoes(p, func(i int) (string, string) { return b.Foes[i].A, b.Foes[i].B }, len(b.Foes))
}

func stationByDefinition(p impl.Plant, name string, s impl.CtlStation) bool {
	goes := map[int]bool{}
	for _, part := range s.Mind.Parts {
		goes[part.Want.Number] = !part.Stopped
	}
	for i, number := range s.On {
		if !goes[number] || number < 1 || number > 1000000 || i > 0 && number <= s.On[i-1] {
			return false
		}
	}
	if len(s.On) > 6 || !itsByDefinition(p, name, s.Disk) {
		return false
	}
	if s.Up {
		return itsByDefinition(p, name, s.Mind)
	}
	return reflect.DeepEqual(copied(s), impl.CtlStation{Disk: copied(s.Disk)})
}

func vesselsByDefinition(w impl.CtlWorld) bool {
	vessels := slices.Clone(w.Stuff.Vessels)
	for _, x := range w.Plant.Places {
		if x.Cap == 0 {
			continue
		}
		if len(vessels) == 0 || vessels[0].Name != x.Name || vessels[0].Cap != x.Cap {
			return false
		}
		vessels = vessels[1:]
	}
	return len(vessels) == 0 && len(w.Stuff.Outs) == 0 && bookByDefinition(w.Stuff) &&
		sameFoes(w.Plant, func(i int) (string, string) { return w.Stuff.Foes[i].A, w.Stuff.Foes[i].B }, len(w.Stuff.Foes))
}

func metersByDefinition(w impl.CtlWorld) bool {
	for i, m := range w.Meters {
		if m.Number < 1 || m.Number > 1000000 || m.Moved < 1 || m.Moved > 1000 || !slices.Contains(stationsByDefinition(w.Plant), m.Station) {
			return false
		}
		if i > 0 && (w.Meters[i-1].Number > m.Number || w.Meters[i-1].Number == m.Number && w.Meters[i-1].Station >= m.Station) {
			return false
		}
	}
	return len(w.Meters) <= 60
}

// worldByDefinition reads the chapter a second time.
func worldByDefinition(w impl.CtlWorld) bool {
	if _, ok := newByDefinition(w.Plant, nil); !ok || !vesselsByDefinition(w) || !metersByDefinition(w) {
		return false
	}
	// What is wet is told as what may be left is.
	if !masterByDefinition(w.Plant, impl.CtlMaster{Left: w.Wet}) || !masterByDefinition(w.Plant, w.Disk) {
		return false
	}
	if w.Up && !masterByDefinition(w.Plant, w.Mind) || !w.Up && (!sameMaster(w.Mind, impl.CtlMaster{}) || len(w.Out) > 0) {
		return false
	}
	where := map[int]string{}
	for what, list := range map[string][]int{"inside": w.Inside, "tagged": w.Tags} {
		for i, number := range list {
			if number < 1 || number > 1000000 || i > 0 && number <= list[i-1] || where[number] != "" {
				return false
			}
			where[number] = what
		}
	}
	names := stationsByDefinition(w.Plant)
	said := [][]impl.CtlWord{w.Out, w.Radio}
	for i, s := range w.Stations {
		if i >= len(names) || !stationByDefinition(w.Plant, names[i], s) {
			return false
		}
		said = append(said, s.Out)
	}
	for _, words := range said {
		if len(words) > 60 || slices.ContainsFunc(words, func(word impl.CtlWord) bool { return !wordByDefinition(w.Plant, word) }) {
			return false
		}
	}
	return len(w.Stations) == len(names)
}

// openedByDefinition is which valves are open, and under which number.
func openedByDefinition(w impl.CtlWorld) map[string]int {
	open := map[string]int{}
	for _, s := range w.Stations {
		for _, p := range s.Mind.Parts {
			for _, valve := range p.Want.Opens {
				if s.Up && slices.Contains(s.On, p.Want.Number) && !p.Stopped {
					open[valve] = p.Want.Number
				}
			}
		}
	}
	return open
}

func checkOpenByReading(t *testing.T, what string, w impl.CtlWorld) {
	t.Helper()
	var want []string
	if worldByDefinition(w) {
		want = slices.Sorted(maps.Keys(openedByDefinition(w)))
	}
	checkOpened(t, what, w, want...)
}

func TestWorldsOfWhichOneThingIsChanged(t *testing.T) {
	ok, not := 0, 0
	for what, from := range map[string]impl.CtlWorld{"busy": busyCellar(), "fallen": fallen(busyCellar(), 0, 2)} {
		eachWithOneChange(from, []string{"", "ale", "keg", "turn", "zinc"}, func(w impl.CtlWorld) {
			want := worldByDefinition(w)
			checkWorld(t, "one thing of "+what, w, want)
			if want {
				ok++
			} else {
				not++
			}
		})
	}
	if ok < 300 || not < 3000 {
		t.Errorf("%d are ok, %d not", ok, not)
	}
}

func TestValvesThatAreOpen(t *testing.T) {
	w := busyCellar()
	checkOpened(t, "of two stations", w, "a", "b")
	checkOpened(t, "the master has nothing to do with it", fallen(w, 0), "a", "b")
	checkOpened(t, "east fell", fallen(w, 1), "a")
	checkOpened(t, "west fell", fallen(w, 4), "b")
	checkOpened(t, "both fell", fallen(w, 1, 4))
	checkOpened(t, "those fell that keep shut", fallen(w, 2, 3), "a", "b")
	checkOpened(t, "not on", otherWorld(w, func(w *impl.CtlWorld) { w.Stations[0].On = nil }), "a")
	checkOpened(t, "none on", otherWorld(w, func(w *impl.CtlWorld) { w.Stations[0].On, w.Stations[3].On = nil, nil }))
	checkOpened(t, "stopped", otherWorld(w, func(w *impl.CtlWorld) { w.Stations[3].On, w.Stations[3].Mind.Parts[0].Stopped = nil, true }), "b")
	checkOpened(t, "on, and stopped: not ok", otherWorld(w, func(w *impl.CtlWorld) { w.Stations[3].Mind.Parts[0].Stopped = true }))
	checkOpened(t, "what is on the disk alone", otherWorld(w, func(w *impl.CtlWorld) {
		w.Stations[3].Mind, w.Stations[3].On = begun(cellar()).Stations[3].Mind, nil
	}), "b")
	checkOpened(t, "new", begun(cellar()))
	checkOpened(t, "nothing", impl.CtlWorld{})
	checkOpened(t, "full", fullCellar(), "a", "b")
	checkOpened(t, "permits alone", sixParts())
	for what, w := range spoiltWorlds() {
		checkOpened(t, what, w)
	}
	for what, w := range someWorlds() {
		checkOpenByReading(t, what, w)
	}
}

// Two moves at a time, one of them with valves of one station that do not stand in order beside the other's.
func TestValvesOfSeveralMoves(t *testing.T) {
	p := written("stuff ale", "vessel p 9 e", "vessel q 9 e", "vessel r 9 w", "vessel s 9 w", "joint j e", "joint k w", "valve a s k e", "valve b p j w", "valve c k r w", "valve d j q e")
	w := begun(p, fill("l", "ale", "p", 9), fill("m", "ale", "s", 9))
	grantAll(&w, in(impl.CtlRunning, "", 0, moveJob(1, "p b j d q", "ale", 2)))
	checkOpened(t, "one", w, "b", "d")
	grantAll(&w, in(impl.CtlRunning, "", 0, moveJob(2, "s a k c r", "ale", 2)))
	checkOpened(t, "two", w, "a", "b", "c", "d")
	checkOpened(t, "e fell", fallen(w, 1), "b", "c")
	checkOpened(t, "w fell", fallen(w, 2), "a", "d")
	w.Stations[0].On = []int{2}
	checkOpened(t, "one of two on", w, "a", "b", "c")
}

func TestWorldsAreNotWrittenInto(t *testing.T) {
	for what, from := range someWorlds() {
		w := withRoom(from)
		was := withWhatIsBehind(w)
		open := impl.CtlOpen(w)
		checkOpened(t, what, from, open...)
		checkWorld(t, what, w, true)
		checkOwnMemory(t, what, open, w)
		checkOwnLists(t, what, open, w)
		spoilTexts(open)
		if !reflect.DeepEqual(withWhatIsBehind(w), was) {
			t.Errorf("%s: the world became %+v", what, withWhatIsBehind(w))
		}
	}
}

// longWorlds is worlds with very long lists, of which none is ok.
func longWorlds() map[string]impl.CtlWorld {
	long := 20000
	names := numbered("s", long)
	all := map[string]impl.CtlWorld{"a long plant": {Plant: impl.Plant{Stuffs: names}}}
	for what, change := range map[string]func(w *impl.CtlWorld){
		"lots":          func(w *impl.CtlWorld) { w.Stuff.Lots = make([]impl.StuffLot, long) },
		"vessels":       func(w *impl.CtlWorld) { w.Stuff.Vessels = slices.Repeat(w.Stuff.Vessels, long) },
		"outs":          func(w *impl.CtlWorld) { w.Stuff.Outs = make([]impl.StuffOut, long) },
		"wet":           func(w *impl.CtlWorld) { w.Wet = slices.Repeat(w.Wet, long) },
		"wet with much": func(w *impl.CtlWorld) { w.Wet[0].Stuffs = names },
		"meters":        func(w *impl.CtlWorld) { w.Meters = slices.Repeat(w.Meters, long) },
		"a long meter":  func(w *impl.CtlWorld) { w.Meters[0].Station = strings.Repeat("s", 1<<20) },
		"jobs in mind":  func(w *impl.CtlWorld) { w.Mind.Jobs = slices.Repeat(w.Mind.Jobs, long) },
		"jobs on disk":  func(w *impl.CtlWorld) { w.Disk.Jobs = slices.Repeat(w.Disk.Jobs, long) },
		"out":           func(w *impl.CtlWorld) { w.Out = slices.Repeat(w.Out, long) },
		"radio":         func(w *impl.CtlWorld) { w.Radio = slices.Repeat(w.Radio, long) },
		"long words":    func(w *impl.CtlWorld) { w.Radio[0].Want.Shuts = names },
		"long words of a station": func(w *impl.CtlWorld) {
			w.Stations[3].Out = slices.Repeat([]impl.CtlWord{said(impl.CtlGone, "west", 1, 0)}, long)
		},
		"stations":     func(w *impl.CtlWorld) { w.Stations = slices.Repeat(w.Stations, long) },
		"on":           func(w *impl.CtlWorld) { w.Stations[0].On = make([]int, long) },
		"parts":        func(w *impl.CtlWorld) { w.Stations[0].Mind.Parts = slices.Repeat(w.Stations[0].Mind.Parts, long) },
		"valves":       func(w *impl.CtlWorld) { w.Stations[0].Disk.Valves = names },
		"spots":        func(w *impl.CtlWorld) { w.Stations[0].Disk.Spots = make([]impl.ClaimSpot, long) },
		"foes":         func(w *impl.CtlWorld) { w.Stations[0].Disk.Foes = make([]impl.ClaimFoe, long) },
		"inside":       func(w *impl.CtlWorld) { w.Inside = make([]int, long) },
		"tags":         func(w *impl.CtlWorld) { w.Tags = make([]int, long) },
		"parts not up": func(w *impl.CtlWorld) { w.Stations[1].Up, w.Stations[1].On = false, nil },
	} {
		all[what] = otherWorld(busyCellar(), change)
	}
	return all
}

func TestWorldsOfVeryLongLists(t *testing.T) {
	for what, w := range longWorlds() {
		checkWorld(t, what, w, false)
		checkOpened(t, what, w)
	}
}

// drawnBook draws a station's book that is ok, with parts that were granted to it one after the other.
func drawnBook(dice *rand.Rand, p impl.Plant, station string, jobs []impl.CtlJob) impl.ClaimBook {
	b := impl.CtlBook(p, station)
	for i := range b.Spots {
		s := &b.Spots[i]
		s.Most = choose(dice.Intn(3) == 0, 0, dice.Intn(s.Cap+1))
		s.Least = s.Most - dice.Intn(s.Most/3+1)
		if stuffs := pick(p.Stuffs, dice.Intn(16)&dice.Intn(16)); !anyFoes(p, stuffs) {
			s.May = stuffs
		}
	}
	for _, j := range jobs {
		for _, a := range jobAsksByDefinition(p, j) {
			if a.Station == station {
				letFit(dice, p, &b, a.Want)
				b, _ = impl.ClaimGrant(b, a.Want)
			}
		}
	}
	for _, part := range b.Parts {
		if dice.Intn(4) == 0 {
			b, _ = impl.ClaimStop(b, part.Want.Number)
		}
	}
	return b
}

// letFit changes what is in places that nobody uses, so that most wants can be granted.
func letFit(dice *rand.Rand, p impl.Plant, b *impl.ClaimBook, w impl.ClaimWant) {
	for _, u := range w.Uses {
		at := slices.IndexFunc(b.Spots, func(s impl.ClaimSpot) bool { return s.Name == u.Name })
		s := &b.Spots[at]
		if _, isUsed := useOf(*b, u.Name); isUsed || dice.Intn(8) == 0 {
			continue
		}
		s.May = nil
		switch {
		case u.Role == impl.ClaimFrom && u.Amount <= s.Cap:
			s.Least = u.Amount + dice.Intn(s.Cap-u.Amount+1)
			s.Most = s.Least + dice.Intn(s.Cap-s.Least+1)
		case u.Role == impl.ClaimTo && u.Amount <= s.Cap:
			s.Most = dice.Intn(s.Cap - u.Amount + 1)
			s.Least = dice.Intn(s.Most + 1)
		case w.Kind == impl.ClaimClean:
			s.Least, s.Most = 0, 0
		}
		if stuffs := pick(w.Stuffs, dice.Intn(16)); !anyFoes(p, stuffs) {
			s.May = stuffs
		}
	}
}

func anyFoes(p impl.Plant, stuffs []string) bool {
	return slices.ContainsFunc(p.Foes, func(f impl.PlantFoe) bool { return slices.Contains(stuffs, f.A) && slices.Contains(stuffs, f.B) })
}

// drawnStation draws a station that is ok; of what it could do it does some.
func drawnStation(dice *rand.Rand, p impl.Plant, name string, jobs []impl.CtlJob) impl.CtlStation {
	s := impl.CtlStation{Disk: drawnBook(dice, p, name, jobs)}
	if dice.Intn(8) == 0 {
		return s
	}
	s.Up, s.Mind = true, choose(dice.Intn(2) == 0, copied(s.Disk), drawnBook(dice, p, name, jobs))
	for _, part := range s.Mind.Parts {
		if !part.Stopped && dice.Intn(5) > 0 {
			s.On = append(s.On, part.Want.Number)
		}
	}
	return s
}

// drawnWords draws words that are ok, of jobs and of others.
func drawnWords(dice *rand.Rand, p impl.Plant, m impl.CtlMaster, many int) []impl.CtlWord {
	var words []impl.CtlWord
	for range many {
		w := drawnWord(dice, p, m)
		if len(m.Jobs) > 0 && dice.Intn(3) == 0 {
			all := sayByDefinition(p, m)
			w = all[dice.Intn(len(all))]
		}
		if wordByDefinition(p, w) {
			words = append(words, w)
		}
	}
	return words
}

// movingMaster draws a book that is ok, with as many moves that may go together as it finds, and others.
func movingMaster(dice *rand.Rand, p impl.Plant) impl.CtlMaster {
	m := impl.CtlMaster{Left: drawnMaster(dice, p).Left}
	var used []string
	all := allRoutes(p)
	for try := range 6 {
		j, ok := drawnJob(dice, p, m.Last+1, used)
		if try < 3 && len(all) > 0 {
			j = impl.CtlJob{Number: m.Last + 1, Kind: impl.ClaimMove, State: impl.CtlRunning, Route: all[dice.Intn(len(all))], Amount: 1 + dice.Intn(3), Stuffs: pick(p.Stuffs, 1+dice.Intn(15))}
			_, ok = askedByDefinition(p, j)
			isUsed := func(place string) bool { return slices.Contains(used, place) }
			ok = ok && !anyFoes(p, j.Stuffs) && !slices.ContainsFunc(j.Route.Places, isUsed)
		}
		if ok && len(m.Jobs) < impl.CtlMaxJobs {
			m.Jobs, m.Last = append(m.Jobs, j), j.Number
			used = slices.Concat(used, j.Places, j.Route.Places)
		}
	}
	return m
}

// plantOfAWorld draws a plant that has a new world, and, more often than not, routes.
func plantOfAWorld(dice *rand.Rand) impl.Plant {
	for {
		p := somePlant(dice)
		_, ok := impl.CtlNew(p, nil)
		if ok && len(p.Stuffs) > 0 && len(p.Places) > 0 && (len(allRoutes(p)) > 0 || dice.Intn(8) == 0) {
			return p
		}
	}
}

func drawnWorld(dice *rand.Rand) impl.CtlWorld {
	return drawnWorldOf(dice, plantOfAWorld(dice))
}

// drawnWorldOf draws one of a plant that is ok, as it may not come about.
func drawnWorldOf(dice *rand.Rand, p impl.Plant) impl.CtlWorld {
	w := begun(p)
	for i, v := range w.Stuff.Vessels {
		if dice.Intn(3) > 0 {
			w.Stuff, _ = impl.StuffStep(w.Stuff, makes("l"+strconv.Itoa(i), p.Stuffs[dice.Intn(len(p.Stuffs))], v.Name, 1+dice.Intn(v.Cap)))
		}
	}
	for i := range w.Wet {
		w.Wet[i].Stuffs = pick(p.Stuffs, dice.Intn(16)&dice.Intn(16))
	}
	w.Disk = movingMaster(dice, p)
	jobs := w.Disk.Jobs
	if w.Up = dice.Intn(8) > 0; w.Up {
		w.Mind = choose(dice.Intn(2) == 0, copied(w.Disk), drawnMaster(dice, p))
		w.Out = drawnWords(dice, p, w.Mind, dice.Intn(4))
		jobs = choose(dice.Intn(2) == 0, jobs, w.Mind.Jobs)
	}
	w.Mind = choose(w.Up, w.Mind, impl.CtlMaster{})
	for i, name := range stationsByDefinition(p) {
		w.Stations[i] = drawnStation(dice, p, name, jobs)
		if w.Stations[i].Up {
			w.Stations[i].Out = drawnWords(dice, p, w.Disk, dice.Intn(3))
		}
		for number := 1; number < 4; number++ {
			if dice.Intn(4) == 0 {
				w.Meters = append(w.Meters, impl.CtlMeter{Number: number, Station: name, Moved: 1 + dice.Intn(3)})
			}
		}
	}
	slices.SortFunc(w.Meters, func(a, b impl.CtlMeter) int { return strings.Compare(fmt.Sprint(a), fmt.Sprint(b)) })
	w.Radio = drawnWords(dice, p, w.Disk, dice.Intn(8))
	numbers := []int{1, 2, 3, 4, 5, 6, 7}
	bits := dice.Intn(128)
	w.Inside, w.Tags = pick(numbers, bits&dice.Intn(128)), pick(numbers, ^bits&dice.Intn(128))
	w.Spilt = dice.Intn(20) == 0
	return w
}

func TestDrawnWorlds(t *testing.T) {
	dice := rand.New(rand.NewSource(37))
	open, on, worlds := 0, 0, 0
	for range 500 {
		w := drawnWorld(dice)
		worlds++
		checkWorld(t, "drawn", w, true)
		if !worldByDefinition(w) {
			t.Errorf("not ok: %+v", w)
		}
		checkOpenByReading(t, "drawn", w)
		open += len(impl.CtlOpen(w))
		for _, s := range w.Stations {
			on += len(s.On)
		}
	}
	if worlds < 400 || open < 300 || on < 300 {
		t.Errorf("%d worlds, %d valves open, %d on", worlds, open, on)
	}
}

func TestGoroutinesOfWorldsHaveEnded(t *testing.T) {
	before := runtime.NumGoroutine()
	w, not := busyCellar(), fallen(busyCellar(), 1)
	not.Stations[0].On = []int{3}
	for range 500 {
		impl.CtlOpen(w)
		impl.CtlOpen(not)
		impl.CtlOpen(impl.CtlWorld{})
		impl.CtlWorldOk(w)
	}
	checkNoMoreGoroutines(t, before)
}

func TestOpenValvesHoweverGoroutinesRun(t *testing.T) {
	w := busyCellar()
	howeverGoroutinesRun(func() {
		checkOpened(t, "busy", w, "a", "b")
	})
}

// What one call was given must not be seen in the next one, nor in one beside it.
func TestWorldsKeepNothing(t *testing.T) {
	all, not := someWorlds(), spoiltWorlds()
	var callers sync.WaitGroup
	for range 8 {
		callers.Go(func() {
			for what, w := range all {
				checkWorld(t, what, w, true)
				checkOpenByReading(t, what, w)
			}
			for what, w := range not {
				checkWorld(t, what, w, false)
			}
		})
	}
	callers.Wait()
}
