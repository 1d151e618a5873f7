package tests

import (
	"fmt"
	"maps"
	"math"
	"math/rand"
	"reflect"
	"runtime"
	"slices"
	"strconv"
	"strings"
	"sync"
	"testing"

	"loop.example/malthouse/impl"
)

// tinyWorld is the tiny plant with a move that goes, of which one was moved, a permit in mind alone, and words of each kind.
func tinyWorld() impl.CtlWorld {
	w := begun(tiny(), fill("l", "ale", "a", 4))
	move := in(impl.CtlRunning, "", 0, moveJob(2, "a u j v b", "ale", 3))
	grantAll(&w, move)
	w.Mind = impl.CtlMaster{Last: 2, Jobs: []impl.CtlJob{move}, Left: leftIn(w.Plant, "a:ale b:ale j:ale")}
	w.Disk = copied(w.Mind)
	w.Stuff, _ = stepByDefinition(w.Stuff, moves("a", "b", 1))
	w.Wet, w.Meters = leftIn(w.Plant, "a:ale b:ale j:ale"), []impl.CtlMeter{{Number: 2, Station: "e", Moved: 1}}
	w.Inside, w.Tags = []int{3}, []int{1}
	w.Radio = []impl.CtlWord{said(impl.CtlEnter, "", 1, 0), said(impl.CtlStops, "e", 2, 0)}
	w.Out = []impl.CtlWord{said(impl.CtlGoes, "w", 2, 0)}
	w.Stations[1].Out = []impl.CtlWord{said(impl.CtlGrants, "w", 2, 0)}
	return copied(w)
}

func TestEventsOfWhichOneThingIsChanged(t *testing.T) {
	changed, not, none := 0, 0, 0
	for i, e := range []impl.CtlEvent{
		happens(impl.CtlBrings, 0, 0), happens(impl.CtlBrings, 1, 0), happens(impl.CtlWrites, 2, 0), happens(impl.CtlHalts, 0, 2), flows(2, "b"), happens(impl.CtlSigns, 0, 3),
		{Kind: impl.CtlPlaces, A: 1, Number: 3, Route: route("a u j v b"), Places: []string{"a"}, Amount: 2, To: "b"},
	} {
		eachWithOneChange(stepping{tinyWorld(), e}, []string{"", "ale", "b", "lye", "v", "w"}, func(s stepping) {
			switch after := checkStepByReading(t, "one thing of "+strconv.Itoa(i), s.World, s.Event); {
			case !worldByDefinition(s.World):
				none++
			case sameWorld(after, s.World):
				not++
			default:
				changed++
			}
		})
	}
	if changed < 500 || not < 50 || none < 3000 {
		t.Errorf("%d changed something, %d nothing, %d worlds were not ok", changed, not, none)
	}
}

func TestSafetyOfWhichOneThingIsChanged(t *testing.T) {
	counts := map[string]int{}
	for what, from := range map[string]impl.CtlWorld{"tiny": tinyWorld(), "calm": calmCellar()} {
		eachWithOneChange(from, []string{"", "ale", "lye", "k"}, func(w impl.CtlWorld) {
			told := told4ByDefinition(w)
			checkTold4(t, "one thing of "+what, w, told)
			counts[fmt.Sprint(told)]++
		})
	}
	if len(counts) < 8 {
		t.Errorf("%v", counts)
	}
}

// drawnEvent draws one that may happen in a world, more often than not.
func drawnEvent(dice *rand.Rand, w impl.CtlWorld) impl.CtlEvent {
	kinds := []int{1, 1, 1, 1, 2, 3, 4, 4, 4, 5, 6, 6, 7, 7, 8, 8, 9, 10, 10, 11, 11, 11, 11, 12, 12, 13}
	e := impl.CtlEvent{Kind: kinds[dice.Intn(len(kinds))], A: dice.Intn(len(w.Stations) + 1), Number: 1 + dice.Intn(w.Disk.Last+1), Amount: 1 + dice.Intn(3)}
	if e.Kind <= 3 && len(w.Radio) > 0 {
		e.A = dice.Intn(len(w.Radio))
	}
	if dice.Intn(40) == 0 {
		e.Kind, e.A = dice.Intn(16)-1, dice.Intn(9)-2
	}
	if all := allRoutes(w.Plant); len(all) > 0 {
		e.Route = all[dice.Intn(len(all))]
	}
	if e.Kind == impl.CtlPlaces {
		e.Number = 1 + dice.Intn(4)
		e.Places = pick(namesOfPlaces(w.Plant), dice.Intn(1<<14)&dice.Intn(1<<14)&dice.Intn(1<<14))
	}
	if e.Kind == impl.CtlSigns && len(w.Inside) > 0 {
		e.Number = w.Inside[dice.Intn(len(w.Inside))]
	}
	drawnFlow(dice, w, &e)
	return e
}

// drawnFlow draws under which number something flows, or is cleaned, and where to.
func drawnFlow(dice *rand.Rand, w impl.CtlWorld, e *impl.CtlEvent) {
	if e.Kind != impl.CtlFlows && e.Kind != impl.CtlCleans {
		return
	}
	var jobs []impl.CtlJob
	for _, j := range slices.Concat(w.Disk.Jobs, w.Mind.Jobs) {
		if (j.Kind == impl.ClaimMove) == (e.Kind == impl.CtlFlows) {
			jobs = append(jobs, j)
		}
	}
	if len(w.Plant.Places) > 0 {
		e.To = w.Plant.Places[dice.Intn(len(w.Plant.Places))].Name
	}
	if len(jobs) > 0 {
		j := jobs[dice.Intn(len(jobs))]
		e.Number = j.Number
		if many := len(j.Route.Places); many > 0 && dice.Intn(4) > 0 {
			e.To = j.Route.Places[many-1]
		}
	}
}

// Promise 31, of worlds as they may not come about.
func TestEventsInDrawnWorlds(t *testing.T) {
	dice := rand.New(rand.NewSource(31))
	kinds, spilt, told := map[int]int{}, 0, map[told4]int{}
	for range 250 {
		w := drawnWorld(dice)
		told[checkSafeByReading(t, "drawn", w)]++
		checkWorld(t, "behind a calm round", impl.CtlCalm(w, 1), true)
		for range 20 {
			e := drawnEvent(dice, w)
			after := checkStepByReading(t, "drawn", w, e)
			checkWorld(t, "behind an event", after, true)
			if !sameWorld(after, w) {
				kinds[e.Kind]++
				spilt += choose(after.Spilt && !w.Spilt, 1, 0)
			}
		}
	}
	for kind := 1; kind <= 13; kind++ {
		if kinds[kind] < 10 {
			t.Errorf("%v happened", kinds)
		}
	}
	if spilt < 5 || len(told) < 6 {
		t.Errorf("%d were spilt, told was %v", spilt, told)
	}
}

// begunAtRandom is a drawn plant's world with something in most of its vessels.
func begunAtRandom(dice *rand.Rand) impl.CtlWorld {
	p := plantOfAWorld(dice)
	var fills []impl.CtlFill
	for i, x := range p.Places {
		if x.Cap > 0 && dice.Intn(3) > 0 {
			fills = append(fills, fill("l"+strconv.Itoa(i), p.Stuffs[dice.Intn(len(p.Stuffs))], x.Name, 1+dice.Intn(x.Cap)))
		}
	}
	return begun(p, fills...)
}

// Promise 31, of worlds as they come about. Of each of them the other three hold, too.
func TestLongRowsOfEventsInAWorld(t *testing.T) {
	dice := rand.New(rand.NewSource(32))
	kinds, quiet := map[int]int{}, 0
	for range 60 {
		w := begunAtRandom(dice)
		for i := range 100 {
			e := drawnEvent(dice, w)
			after := checkStepByReading(t, "a row", w, e)
			// Falls would end most of what is done, if nobody rose at once.
			if e.Kind == impl.CtlFalls && dice.Intn(4) > 0 {
				after = checkStepByReading(t, "a row", after, happens(impl.CtlRises, e.A, 0))
			}
			kinds[e.Kind] += choose(sameWorld(after, w), 0, 1)
			w = after
			if dice.Intn(3) == 0 {
				after = calmByDefinition(w, 1)
				checkCalm(t, "a row", w, 1, after)
				w = after
			}
			checkWorld(t, "a row", w, true)
			if i%4 == 0 {
				told := told4ByDefinition(w)
				checkTold4(t, "a row", w, told)
				quiet += choose(told.Quiet, 1, 0)
				if !told.Never || !told.Between || !told.Locked {
					t.Errorf("%+v: %+v", told, w)
				}
			}
		}
	}
	for kind := 1; kind <= 13; kind++ {
		if kinds[kind] < 10 {
			t.Errorf("%v happened", kinds)
		}
	}
	if quiet < 50 {
		t.Errorf("%d were quiet", quiet)
	}
}

// tinyBeginnings is the tiny plant's world when nothing has happened, and when a move, a cleaning, a permit has begun, goes, and is halted.
func tinyBeginnings() []impl.CtlWorld {
	all := []impl.CtlWorld{begun(tiny(), fill("l", "ale", "a", 1))}
	for _, e := range []impl.CtlEvent{
		{Kind: impl.CtlMoves, Route: route("a u j v b"), Amount: 1}, {Kind: impl.CtlPlaces, Number: impl.ClaimPermit, Places: []string{"j"}}, {Kind: impl.CtlPlaces, Number: impl.ClaimClean, Places: []string{"b", "j"}},
	} {
		w := impl.CtlStep(all[0], e)
		all = append(all, w, impl.CtlCalm(w, 2), impl.CtlCalm(w, 4))
		w = impl.CtlStep(impl.CtlCalm(w, 4), happens(choose(e.Number == impl.ClaimPermit, impl.CtlSigns, impl.CtlHalts), 0, 1))
		all = append(all, impl.CtlCalm(w, 2))
	}
	return all
}

// Promise 31, of all short rows of events in a tiny world.
func TestAllShortRowsOfEventsInAWorld(t *testing.T) {
	events := []impl.CtlEvent{
		{Kind: impl.CtlMoves, Route: route("a u j v b"), Amount: 1}, {Kind: impl.CtlPlaces, Number: impl.ClaimPermit, Places: []string{"b"}},
		happens(impl.CtlSays, 0, 0), happens(impl.CtlWrites, 0, 0), happens(impl.CtlWrites, 1, 0), happens(impl.CtlWrites, 2, 0),
		happens(impl.CtlBrings, 0, 0), happens(impl.CtlBrings, 1, 0), happens(impl.CtlHalts, 0, 1), flows(1, "b"), happens(impl.CtlCleans, 2, 1), happens(impl.CtlSigns, 0, 1), happens(impl.CtlFalls, 1, 0), happens(impl.CtlRises, 1, 0),
	}
	seen := map[string]bool{}
	now := tinyBeginnings()
	for range 3 {
		var next []impl.CtlWorld
		for _, from := range now {
			for _, e := range events {
				after := impl.CtlStep(from, e)
				if key := fmt.Sprintf("%+v", after); !seen[key] {
					seen[key] = true
					checkStepByReading(t, "short", from, e)
					checkWorld(t, "short", after, true)
					next = append(next, after)
				}
			}
		}
		now = next
	}
	if len(seen) < 1000 {
		t.Errorf("%d worlds were come to", len(seen))
	}
}

// Promise 31: a rounds and then b rounds are a + b rounds.
func TestCalmRoundsOneAfterTheOther(t *testing.T) {
	dice := rand.New(rand.NewSource(33))
	worlds := []impl.CtlWorld{{}, busyCellar(), calmCellar(), fullCellar(), tinyWorld(), fallen(busyCellar(), 0, 2)}
	for range 20 {
		w := begunAtRandom(dice)
		for range 30 {
			w = impl.CtlStep(w, drawnEvent(dice, w))
		}
		worlds = append(worlds, w, drawnWorld(dice))
	}
	for i, w := range worlds {
		for a := range 5 {
			for b := range 5 {
				after := impl.CtlCalm(impl.CtlCalm(w, a), b)
				checkCalm(t, fmt.Sprint(i, ": ", a, " and ", b), w, a+b, after)
				checkWorld(t, "behind calm rounds", after, true)
			}
		}
		a := []int{0, 1, 99, 100, 199, 200}[i%6]
		checkCalm(t, fmt.Sprint(i, ": ", a), w, 200, impl.CtlCalm(impl.CtlCalm(w, a), 200-a))
	}
}

func TestStepsOfWorldsLeaveTheirArguments(t *testing.T) {
	for what, from := range someSteps() {
		s := withRoom(from)
		was := withWhatIsBehind(s)
		checkStepped(t, what, from.World, from.Event, impl.CtlStep(s.World, s.Event))
		checkTold4(t, what, from.World, toldOf(s.World))
		checkCalm(t, what, from.World, 2, impl.CtlCalm(s.World, 2))
		if !reflect.DeepEqual(withWhatIsBehind(s), was) {
			t.Errorf("%s: the arguments became %+v", what, withWhatIsBehind(s))
		}
	}
}

func TestWorldsBehindEventsAreNewMemory(t *testing.T) {
	for what, from := range someSteps() {
		s := withRoom(from)
		after := impl.CtlStep(s.World, s.Event)
		checkOwnMemory(t, what, after, s)
		checkOwnLists(t, what, after, s)
		for _, rounds := range []int{0, 1, 3} {
			calm := impl.CtlCalm(s.World, rounds)
			checkOwnMemory(t, what+", calm", calm, s)
			checkOwnLists(t, what+", calm", calm, s)
		}
		spoilTexts(after.Plant.Stuffs)
		for _, l := range slices.Concat(after.Wet, after.Mind.Left, after.Disk.Left) {
			spoilTexts(l.Stuffs)
		}
		for _, station := range after.Stations {
			spoilTexts(station.Mind.Valves)
			spoilTexts(station.Disk.Valves)
		}
		checkStepByReading(t, what+", behind an answer that was written into", s.World, s.Event)
	}
}

// What a row of events leads to is new memory as what one leads to.
func TestWorldsBehindRowsAreNewMemory(t *testing.T) {
	dice := rand.New(rand.NewSource(36))
	for range 10 {
		w := begunAtRandom(dice)
		for range 60 {
			e := withRoom(drawnEvent(dice, w))
			after := impl.CtlStep(w, e)
			checkOwnMemory(t, "a row", after, w, e)
			checkOwnLists(t, "a row", after, w, e)
			w = after
		}
	}
}

func TestEventsOfVeryLongLists(t *testing.T) {
	names := numbered("s", 20000)
	w := busyCellar()
	for _, e := range []impl.CtlEvent{
		{Kind: impl.CtlMoves, Route: impl.PlantRoute{Places: names, Valves: names[1:]}, Amount: 1}, {Kind: impl.CtlPlaces, Number: impl.ClaimPermit, Places: names},
		{Kind: impl.CtlPlaces, Number: impl.ClaimPermit, Places: slices.Repeat([]string{"keg"}, 20000)}, flows(3, strings.Repeat("tun", 1<<18)),
	} {
		checkNothingHappens(t, "a long list", w, e)
	}
	long := begun(cellar())
	for number := 1; number <= 2*100000; number += 2 {
		long.Inside, long.Tags = append(long.Inside, number), append(long.Tags, number+1)
	}
	after := impl.CtlStep(long, happens(impl.CtlSigns, 0, 1))
	if len(after.Inside) != 99999 || len(after.Tags) != 100001 || after.Tags[0] != 1 || impl.CtlLocked(after) {
		t.Errorf("%d are inside, %d tagged", len(after.Inside), len(after.Tags))
	}
}

func TestGoroutinesOfEventsHaveEnded(t *testing.T) {
	before := runtime.NumGoroutine()
	all := slices.Collect(maps.Values(someSteps()))
	for i := range 2 * len(all) {
		s := all[i%len(all)]
		impl.CtlStep(s.World, s.Event)
		impl.CtlCalm(s.World, i%3)
		toldOf(s.World)
	}
	checkNoMoreGoroutines(t, before)
}

func TestEventsHoweverGoroutinesRun(t *testing.T) {
	w := busyCellar()
	flown, calm, told := stepOfWorldByDefinition(w, flows(3, "tun")), calmByDefinition(w, 3), told4ByDefinition(w)
	howeverGoroutinesRun(func() {
		checkStepped(t, "flows", w, flows(3, "tun"), flown)
		checkCalm(t, "three rounds", w, 3, calm)
		checkTold4(t, "told", w, told)
	})
}

func TestCalmRoundsOfManyCallersAtOnce(t *testing.T) {
	worlds := []impl.CtlWorld{busyCellar(), calmCellar(), tinyWorld(), fallen(busyCellar(), 0, 3)}
	var wants []impl.CtlWorld
	for _, w := range worlds {
		wants = append(wants, calmByDefinition(w, 4))
	}
	var callers sync.WaitGroup
	for range 8 {
		callers.Go(func() {
			for range 10 {
				for i, w := range worlds {
					checkCalm(t, "one beside others", w, 4, wants[i])
				}
			}
		})
	}
	callers.Wait()
}

// What one call was given must not be seen in the next one, nor in one beside it.
func TestStepsOfWorldsKeepNothing(t *testing.T) {
	var all []stepping
	for what, s := range someSteps() {
		if len(what)%4 == 0 {
			all = append(all, s)
		}
	}
	var callers sync.WaitGroup
	for range 4 {
		callers.Go(func() {
			for _, s := range all {
				checkStepByReading(t, "one beside others", s.World, s.Event)
				checkTold4(t, "one beside others", s.World, told4ByDefinition(s.World))
			}
		})
	}
	callers.Wait()
}

// No number, and no place, makes a call panic.
func TestEventsOfAnyNumbers(t *testing.T) {
	w := busyCellar()
	for kind := -1; kind <= 14; kind++ {
		for _, a := range []int{math.MinInt, math.MinInt + 1, -1, 0, 4, 5, 6, 7, math.MaxInt - 1, math.MaxInt} {
			for _, number := range []int{math.MinInt, -1, 0, 3, 6, 1000000, 1000001, math.MaxInt} {
				e := impl.CtlEvent{Kind: kind, A: a, Number: number, Amount: number, To: "tun", Route: route("keg b j a tun"), Places: []string{"keg"}}
				checkStepByReading(t, "any numbers", w, e)
			}
		}
	}
}
