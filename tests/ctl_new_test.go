package tests

import (
	"fmt"
	"math"
	"math/rand"
	"reflect"
	"slices"
	"strconv"
	"strings"
	"sync"
	"testing"

	"loop.example/malthouse/impl"
)

// fill is a lot that is there at first.
func fill(lot, stuff, vessel string, amount int) impl.CtlFill {
	return impl.CtlFill{Lot: lot, Stuff: stuff, Vessel: vessel, Amount: amount}
}

func sameWorld(a, b impl.CtlWorld) bool {
	return reflect.DeepEqual(copied(a), copied(b))
}

func checkNew(t *testing.T, what string, p impl.Plant, fills []impl.CtlFill, want impl.CtlWorld, ok bool) {
	t.Helper()
	if w, is := impl.CtlNew(p, fills); is != ok || !sameWorld(w, want) {
		t.Errorf("%s: CtlNew of %v = %+v, %v; want %+v, %v: %+v", what, fills, w, is, want, ok, p)
	}
}

// checkNoNew asks for nothing and false.
func checkNoNew(t *testing.T, what string, p impl.Plant, fills ...impl.CtlFill) {
	t.Helper()
	checkNew(t, what, p, fills, impl.CtlWorld{}, false)
}

// checkIsNew asks for true alone.
func checkIsNew(t *testing.T, what string, p impl.Plant, fills ...impl.CtlFill) {
	t.Helper()
	if _, ok := impl.CtlNew(p, fills); !ok {
		t.Errorf("%s: CtlNew of %v is false: %+v", what, fills, p)
	}
}

// cellar has four stations, one of them with valves alone.
func cellar() impl.Plant {
	return written("stuff ale", "stuff lye", "stuff malt", "foe ale lye", "vessel keg 20 east", "vessel tun 40 west", "vessel vat 9 mid", "joint j west", "joint k mid",
		"valve a tun j west", "valve b j keg east", "valve c j k turn", "valve d k vat turn")
}

// unfilled is the cellar's world with no fills, every field of it.
func unfilled() impl.CtlWorld {
	p := cellar()
	foes := claimFoes("ale/lye")
	w := impl.CtlWorld{Plant: p, Up: true, Wet: leftIn(p, ""), Mind: impl.CtlMaster{Left: leftIn(p, "")}, Disk: impl.CtlMaster{Left: leftIn(p, "")}}
	w.Stuff = impl.StuffBook{Foes: []impl.StuffFoe{{A: "ale", B: "lye"}}, Vessels: []impl.StuffVessel{vessel("keg", 20, "", ""), vessel("tun", 40, "", ""), vessel("vat", 9, "", "")}}
	for _, b := range []impl.ClaimBook{
		{Foes: foes, Spots: []impl.ClaimSpot{spot("keg", 20, 0, 0, "")}, Valves: []string{"b"}},
		{Foes: foes, Spots: []impl.ClaimSpot{spot("k", 0, 0, 0, ""), spot("vat", 9, 0, 0, "")}},
		{Foes: foes, Valves: []string{"c", "d"}},
		{Foes: foes, Spots: []impl.ClaimSpot{spot("j", 0, 0, 0, ""), spot("tun", 40, 0, 0, "")}, Valves: []string{"a"}},
	} {
		w.Stations = append(w.Stations, impl.CtlStation{Up: true, Mind: b, Disk: b})
	}
	return w
}

// withIn puts so much into a spot of a station of a world, in mind and on disk.
func withIn(w *impl.CtlWorld, station, at, held int, may string) {
	s := &w.Stations[station]
	for _, b := range []*impl.ClaimBook{&s.Mind, &s.Disk} {
		*b = copied(*b)
		b.Spots[at].Least, b.Spots[at].Most, b.Spots[at].May = held, held, strings.Fields(may)
	}
}

func TestNewWorlds(t *testing.T) {
	checkNew(t, "no fills", cellar(), nil, unfilled(), true)
	checkNew(t, "no fills", cellar(), []impl.CtlFill{}, unfilled(), true)
	checkNew(t, "nothing", impl.Plant{}, nil, impl.CtlWorld{Up: true}, true)
	checkNew(t, "stuffs alone", impl.Plant{Stuffs: []string{"ale"}}, nil, impl.CtlWorld{Plant: impl.Plant{Stuffs: []string{"ale"}}, Up: true}, true)

	w := unfilled()
	w.Stuff.Lots, w.Stuff.Vessels[1] = lots("l1:ale"), vessel("tun", 40, "l1:10", "l1")
	left := leftIn(w.Plant, "tun:ale")
	w.Wet, w.Mind.Left, w.Disk.Left = left, left, left
	withIn(&w, 3, 1, 10, "ale")
	checkNew(t, "one fill", cellar(), []impl.CtlFill{fill("l1", "ale", "tun", 10)}, w, true)

	w = unfilled()
	w.Stuff.Lots = lots("a:malt b:ale c:malt d:ale e:lye")
	w.Stuff.Vessels[0], w.Stuff.Vessels[1] = vessel("keg", 20, "b:7 c:5 d:8", "b c d"), vessel("tun", 40, "a:1", "a")
	w.Stuff.Vessels[2] = vessel("vat", 9, "e:9", "e")
	left = leftIn(w.Plant, "keg:ale,malt tun:malt vat:lye")
	w.Wet, w.Mind.Left, w.Disk.Left = left, left, left
	withIn(&w, 0, 0, 20, "ale malt")
	withIn(&w, 1, 1, 9, "lye")
	withIn(&w, 3, 1, 1, "malt")
	checkNew(t, "several", cellar(), []impl.CtlFill{fill("c", "malt", "keg", 5), fill("e", "lye", "vat", 9), fill("b", "ale", "keg", 7), fill("d", "ale", "keg", 8), fill("a", "malt", "tun", 1)}, w, true)
}

// What is new is ok, wherever it is asked.
func TestNewWorldsAreOk(t *testing.T) {
	w, _ := impl.CtlNew(cellar(), []impl.CtlFill{fill("c", "malt", "keg", 5), fill("e", "lye", "vat", 9), fill("b", "ale", "keg", 7)})
	checkBook(t, "what is in vessels", w.Stuff, true)
	checkMaster(t, "in mind", w.Plant, w.Mind, true)
	checkMaster(t, "on disk", w.Plant, w.Disk, true)
	for _, s := range w.Stations {
		checkClaims(t, "in mind", s.Mind, true)
		checkClaims(t, "on disk", s.Disk, true)
	}
}

func TestNewWorldsOfPlantsThatAreNotValid(t *testing.T) {
	for i, p := range notValid() {
		checkNoNew(t, strconv.Itoa(i), p)
		checkNoNew(t, strconv.Itoa(i), p, fill("l", "ale", "tun", 1))
	}
}

func TestHowManyStationsOfAWorld(t *testing.T) {
	for many := 1; many <= 7; many++ {
		var lines []string
		for i := range many {
			lines = append(lines, fmt.Sprintf("vessel p%d 5 s%d", i, i))
		}
		p := written(append(lines, "stuff ale")...)
		q := written("stuff ale", "vessel p0 5 s0", "vessel p1 5 s0")
		for i := range many {
			q.Valves = append(q.Valves, impl.PlantValve{Name: "v" + strconv.Itoa(i), A: "p0", B: "p1", Station: "s" + strconv.Itoa(i)})
		}
		for _, p := range []impl.Plant{p, q} {
			if many > impl.CtlMaxStations {
				checkNoNew(t, strconv.Itoa(many), p)
				checkNoNew(t, strconv.Itoa(many), p, fill("l", "ale", "p0", 1))
				continue
			}
			w, ok := impl.CtlNew(p, nil)
			if !ok || len(w.Stations) != many {
				t.Errorf("%d stations: %v, %d", many, ok, len(w.Stations))
			}
		}
	}
}

func TestFillsWithACode(t *testing.T) {
	p := cellar()
	good := fill("l1", "ale", "tun", 10)
	checkIsNew(t, "good", p, good)
	for what, other := range map[string]impl.CtlFill{
		"no name":            fill("", "ale", "tun", 1),
		"a long name":        fill("abcdefghi", "ale", "tun", 1),
		"a great letter":     fill("L2", "ale", "tun", 1),
		"no stuff":           fill("l2", "", "tun", 1),
		"another stuff":      fill("l2", "beer", "tun", 1),
		"a lot as a stuff":   fill("l2", "l1", "tun", 1),
		"a place as a stuff": fill("l2", "tun", "tun", 1),
		"no vessel":          fill("l2", "ale", "", 1),
		"another vessel":     fill("l2", "ale", "none", 1),
		"a joint":            fill("l2", "ale", "j", 1),
		"a valve":            fill("l2", "ale", "a", 1),
		"a station":          fill("l2", "ale", "west", 1),
		"nothing of it":      fill("l2", "ale", "tun", 0),
		"less than nothing":  fill("l2", "ale", "tun", -1),
		"very little":        fill("l2", "ale", "tun", math.MinInt),
		"too much":           fill("l2", "ale", "tun", 31),
		"far too much":       fill("l2", "ale", "tun", 1001),
		"very much":          fill("l2", "ale", "tun", math.MaxInt),
		"a foe":              fill("l2", "lye", "tun", 1),
		"the same lot":       fill("l1", "ale", "keg", 1),
		"nothing at all":     {},
	} {
		checkNoNew(t, what, p, good, other)
		checkNoNew(t, what, p, good, other, fill("l3", "ale", "keg", 1))
		// The same lot is only one too many where the other one stands ahead.
		if what != "the same lot" && what != "a foe" && what != "too much" {
			checkNoNew(t, what, p, other, good)
			checkNoNew(t, what+" alone", p, other)
		}
	}
	checkIsNew(t, "as much as it holds", p, good, fill("l2", "ale", "tun", 30))
	checkIsNew(t, "foes in two vessels", p, good, fill("l2", "lye", "keg", 1))
	checkNoNew(t, "the foe first", p, fill("l2", "lye", "tun", 1), good)
	checkNoNew(t, "a stuff of no plant", written("vessel tun 9 w"), fill("l", "ale", "tun", 1))
}

func TestAsManyFillsAsThereCanBe(t *testing.T) {
	p := cellar()
	var fills []impl.CtlFill
	for _, name := range numbered("l", 18) {
		fills = append(fills, fill(name, "ale", "tun", 1))
	}
	for many := range 19 {
		if many > impl.StuffMaxLots {
			checkNoNew(t, strconv.Itoa(many), p, fills[:many]...)
			continue
		}
		w, ok := impl.CtlNew(p, fills[:many])
		if !ok || len(w.Stuff.Lots) != many || w.Stations[3].Mind.Spots[1].Least != many {
			t.Errorf("%d fills: %v, %+v", many, ok, w.Stuff)
		}
	}
}

// A plant may have more than a book that is ok has: too many vessels, or too much at one station.
func TestNewWorldsOfPlantsWithMuch(t *testing.T) {
	for many := 1; many <= 14; many++ {
		var p, q impl.Plant
		for i, name := range numbered("p", many) {
			station := "s" + strconv.Itoa(i%2)
			p.Places = append(p.Places, impl.PlantPlace{Name: name, Cap: 5, Station: station})
			q.Places = append(q.Places, impl.PlantPlace{Name: name, Station: "s"})
		}
		if many <= impl.StuffMaxVessels {
			checkIsNew(t, strconv.Itoa(many)+" vessels", p)
		} else {
			checkNoNew(t, strconv.Itoa(many)+" vessels", p)
		}
		if many <= impl.ClaimMaxSpots {
			checkIsNew(t, strconv.Itoa(many)+" joints of one station", q)
		} else {
			checkNoNew(t, strconv.Itoa(many)+" joints of one station", q)
			for i := range q.Places {
				q.Places[i].Station = "s" + strconv.Itoa(i%2)
			}
			checkIsNew(t, strconv.Itoa(many)+" joints of two stations", q)
		}
	}
	for many := range 19 {
		for _, station := range []string{"s", "t"} {
			p := written("joint a s", "joint b s")
			for _, name := range numbered("v", many) {
				p.Valves = append(p.Valves, impl.PlantValve{Name: name, A: "a", B: "b", Station: station})
			}
			if many <= impl.ClaimMaxValves {
				checkIsNew(t, strconv.Itoa(many)+" valves of one station", p)
			} else {
				checkNoNew(t, strconv.Itoa(many)+" valves of one station", p)
			}
		}
	}
}

// newByDefinition reads the chapter a second time.
func newByDefinition(p impl.Plant, fills []impl.CtlFill) (impl.CtlWorld, bool) {
	if !impl.PlantValid(p) || len(stationsByDefinition(p)) > 4 {
		return impl.CtlWorld{}, false
	}
	w := impl.CtlWorld{Plant: p, Up: true}
	for _, f := range p.Foes {
		w.Stuff.Foes = append(w.Stuff.Foes, impl.StuffFoe{A: f.A, B: f.B})
	}
	for _, x := range p.Places {
		if x.Cap > 0 {
			w.Stuff.Vessels = append(w.Stuff.Vessels, impl.StuffVessel{Name: x.Name, Cap: x.Cap})
		}
	}
	if !bookByDefinition(w.Stuff) {
		return impl.CtlWorld{}, false
	}
	in, may := map[string]int{}, map[string][]string{}
	for _, f := range fills {
		after, code := stepByDefinition(w.Stuff, makes(f.Lot, f.Stuff, f.Vessel, f.Amount))
		if code != 0 || !slices.Contains(p.Stuffs, f.Stuff) {
			return impl.CtlWorld{}, false
		}
		w.Stuff = after
		in[f.Vessel] += f.Amount
		may[f.Vessel] = slices.Compact(slices.Sorted(slices.Values(append(may[f.Vessel], f.Stuff))))
	}
	for _, x := range p.Places {
		w.Wet = append(w.Wet, impl.CtlLeft{Place: x.Name, Stuffs: may[x.Name]})
	}
	w.Mind.Left, w.Disk.Left = w.Wet, w.Wet
	for _, station := range stationsByDefinition(p) {
		b := bookOfByDefinition(p, station)
		for i, s := range b.Spots {
			b.Spots[i].Least, b.Spots[i].Most, b.Spots[i].May = in[s.Name], in[s.Name], may[s.Name]
		}
		if !claimsByDefinition(b) {
			return impl.CtlWorld{}, false
		}
		w.Stations = append(w.Stations, impl.CtlStation{Up: true, Mind: b, Disk: b})
	}
	return w, true
}

// filling is what a world may be made of.
type filling struct {
	Plant impl.Plant
	Fills []impl.CtlFill
}

func checkNewByReading(t *testing.T, what string, f filling) bool {
	t.Helper()
	want, ok := newByDefinition(f.Plant, f.Fills)
	checkNew(t, what, f.Plant, f.Fills, want, ok)
	return ok
}

// someFillings is what makes a world, and what does not.
func someFillings() []filling {
	all := []filling{
		{cellar(), nil},
		{cellar(), []impl.CtlFill{fill("l1", "ale", "tun", 10)}},
		{cellar(), []impl.CtlFill{fill("c", "malt", "keg", 5), fill("e", "lye", "vat", 9), fill("b", "ale", "keg", 7), fill("d", "ale", "keg", 8)}},
		{smallPlant(), []impl.CtlFill{fill("x", "malt", "tun", 1), fill("w", "water", "tun", 2), fill("y", "lye", "keg", 30)}},
		{tiny(), []impl.CtlFill{fill("x", "ale", "a", 1), fill("y", "lye", "a", 1)}},
		{impl.Plant{}, nil},
		{house(), nil},
		{fullPlant(), nil},
	}
	for _, p := range spoilt() {
		all = append(all, filling{p, []impl.CtlFill{fill("l", "ale", "tun", 1)}})
	}
	return all
}

func TestNewWorldsOfWhichOneThingIsChanged(t *testing.T) {
	ok, not := 0, 0
	for i, from := range someFillings()[:5] {
		eachWithOneChange(from, textsOfAll(from), func(f filling) {
			if checkNewByReading(t, "one thing of "+strconv.Itoa(i), f) {
				ok++
			} else {
				not++
			}
		})
	}
	if ok < 500 || not < 500 {
		t.Errorf("%d are true, %d false", ok, not)
	}
}

func TestAllShortFills(t *testing.T) {
	p := tiny()
	var some []impl.CtlFill
	for _, lot := range []string{"l", "m"} {
		for _, stuff := range []string{"ale", "lye", "none"} {
			for _, vessel := range []string{"a", "b", "j"} {
				for _, amount := range []int{0, 3, 5} {
					some = append(some, fill(lot, stuff, vessel, amount))
				}
			}
		}
	}
	ok := 0
	eachOf(some, 2, func(fills []impl.CtlFill) {
		if checkNewByReading(t, "short", filling{p, fills}) {
			ok++
		}
	})
	if ok < 50 {
		t.Errorf("%d are true", ok)
	}
}

func TestNewWorldsOfDrawnPlants(t *testing.T) {
	dice := rand.New(rand.NewSource(36))
	ok, not := 0, 0
	for range 500 {
		p := somePlant(dice)
		var fills []impl.CtlFill
		var vessels []string
		for _, x := range p.Places {
			if x.Cap > 0 {
				vessels = append(vessels, x.Name)
			}
		}
		for _, name := range numbered("l", dice.Intn(5)) {
			if len(vessels) > 0 && len(p.Stuffs) > 0 {
				fills = append(fills, fill(name, p.Stuffs[dice.Intn(len(p.Stuffs))], vessels[dice.Intn(len(vessels))], 1+dice.Intn(3)))
			}
		}
		slices.Reverse(fills)
		if checkNewByReading(t, "drawn", filling{p, fills}) {
			ok++
		} else {
			not++
		}
	}
	if ok < 100 || not < 100 {
		t.Errorf("%d are true, %d false", ok, not)
	}
}

func TestNewWorldsLeaveTheirArguments(t *testing.T) {
	for _, from := range someFillings() {
		f := withRoom(from)
		was := withWhatIsBehind(f)
		w, ok := impl.CtlNew(f.Plant, f.Fills)
		checkNew(t, "without room", from.Plant, from.Fills, w, ok)
		if !reflect.DeepEqual(withWhatIsBehind(f), was) {
			t.Errorf("the arguments became %+v", withWhatIsBehind(f))
		}
	}
}

func TestNewWorldsAreNewMemory(t *testing.T) {
	for i, from := range someFillings() {
		f := withRoom(from)
		w, _ := impl.CtlNew(f.Plant, f.Fills)
		checkOwnMemory(t, strconv.Itoa(i), w, f)
		checkOwnLists(t, strconv.Itoa(i), w, f)
		spoilTexts(w.Plant.Stuffs)
		for _, l := range slices.Concat(w.Wet, w.Mind.Left, w.Disk.Left) {
			spoilTexts(l.Stuffs)
		}
		checkNewByReading(t, "behind a world that was written into", f)
	}
}

func TestNewWorldsOfVeryLongLists(t *testing.T) {
	long := 20000
	checkNoNew(t, "fills", cellar(), slices.Repeat([]impl.CtlFill{fill("l1", "ale", "tun", 1)}, long)...)
	checkNoNew(t, "a long name", cellar(), fill(strings.Repeat("l", 1<<20), "ale", "tun", 1))
	checkNoNew(t, "a long plant", impl.Plant{Stuffs: numbered("s", long)})
}

// What one call was given must not be seen in the next one, nor in one beside it.
func TestNewWorldsKeepNothing(t *testing.T) {
	all := someFillings()
	var callers sync.WaitGroup
	for range 8 {
		callers.Go(func() {
			for i := range 3 * len(all) {
				checkNewByReading(t, "one beside others", all[i%len(all)])
			}
		})
	}
	callers.Wait()
}
