package tests

import (
	"fmt"
	"maps"
	"math"
	"slices"
	"strconv"
	"strings"
	"testing"

	"loop.example/malthouse/impl"
)

func checkStepped(t *testing.T, what string, w impl.CtlWorld, e impl.CtlEvent, want impl.CtlWorld) {
	t.Helper()
	if got := impl.CtlStep(w, e); !sameWorld(got, want) {
		t.Errorf("%s: CtlStep of %+v = %+v; want %+v: %+v", what, e, got, want, w)
	}
}

// checkChanges asks for an ok world with a change, in which something has changed.
func checkChanges(t *testing.T, what string, w impl.CtlWorld, e impl.CtlEvent, change func(w *impl.CtlWorld)) {
	t.Helper()
	want := otherWorld(w, change)
	checkStepped(t, what, w, e, want)
	checkWorld(t, what, want, true)
	if sameWorld(w, want) {
		t.Errorf("%s: nothing is asked for: %+v in %+v", what, e, w)
	}
	checkStepByReading(t, what, w, e)
}

// checkNothingHappens asks for the world as it is.
func checkNothingHappens(t *testing.T, what string, w impl.CtlWorld, e impl.CtlEvent) {
	t.Helper()
	checkWorld(t, what, w, true)
	checkStepped(t, what, w, e, w)
	checkStepByReading(t, what, w, e)
}

// happens is an event of a kind with no more than a place and a number.
func happens(kind, a, number int) impl.CtlEvent {
	return impl.CtlEvent{Kind: kind, A: a, Number: number}
}

func flows(number int, to string) impl.CtlEvent {
	return impl.CtlEvent{Kind: impl.CtlFlows, Number: number, To: to}
}

// onRadio is a world with these words under way alone.
func onRadio(w impl.CtlWorld, words ...impl.CtlWord) impl.CtlWorld {
	w = copied(w)
	w.Radio = words
	return w
}

// repeated is as many words, each ok in the cellar.
func repeated(many int) []impl.CtlWord {
	return slices.Repeat([]impl.CtlWord{said(impl.CtlGone, "mid", 1, 0)}, many)
}

// farPlaces is places that are none, in a list of so many.
func farPlaces(many int) []int {
	return []int{math.MinInt, -many, -2, -1, many, many + 1, many + 60, 1 << 32, math.MaxInt}
}

func TestKindsOfEvents(t *testing.T) {
	for i, kind := range []int{impl.CtlBrings, impl.CtlDoubles, impl.CtlLoses, impl.CtlWrites, impl.CtlFalls, impl.CtlRises, impl.CtlMoves, impl.CtlPlaces, impl.CtlHalts, impl.CtlSays, impl.CtlFlows, impl.CtlCleans, impl.CtlSigns} {
		if kind != i+1 {
			t.Errorf("constant %d is %d", i+1, kind)
		}
	}
	for _, kind := range []int{math.MinInt, -1, 0, 14, 15, 257, 4 + 1<<32, math.MaxInt} {
		for a := range 3 {
			e := impl.CtlEvent{Kind: kind, A: a, Number: 3, Route: route("keg b j a tun"), Places: []string{"vat"}, Amount: 1, To: "tun"}
			checkNothingHappens(t, "another kind", busyCellar(), e)
		}
	}
}

// steppedAll is an event of each kind, and of each that brings a word, that changes the busy cellar.
func steppedAll() map[string]impl.CtlEvent {
	all := map[string]impl.CtlEvent{
		"doubles": happens(impl.CtlDoubles, 6, 0), "loses": happens(impl.CtlLoses, 0, 0), "writes": happens(impl.CtlWrites, 0, 0), "turn writes": happens(impl.CtlWrites, 3, 0),
		"falls": happens(impl.CtlFalls, 0, 0), "west falls": happens(impl.CtlFalls, 4, 0),
		"moves":  {Kind: impl.CtlMoves, Route: route("keg b j a tun"), Amount: 2},
		"places": {Kind: impl.CtlPlaces, Number: impl.ClaimPermit, Places: []string{"keg"}},
		"halts":  happens(impl.CtlHalts, 0, 3), "says": happens(impl.CtlSays, 0, 0), "flows": flows(3, "tun"), "cleans": happens(impl.CtlCleans, 2, 6), "signs": happens(impl.CtlSigns, 0, 4),
	}
	for at := range 7 {
		all["brings "+strconv.Itoa(at)] = happens(impl.CtlBrings, at, 0)
	}
	return all
}

// stepping is a world, and what happens in it.
type stepping struct {
	World impl.CtlWorld
	Event impl.CtlEvent
}

// someSteps is what happens, and what does not.
func someSteps() map[string]stepping {
	all := map[string]stepping{}
	for what, e := range steppedAll() {
		w := busyCellar()
		switch what {
		case "moves":
			w.Mind.Jobs = w.Mind.Jobs[1:]
		case "places":
			w.Mind.Jobs = w.Mind.Jobs[1:2]
		case "cleans":
			w.Meters = w.Meters[:2]
		}
		all[what] = stepping{w, e}
		all[what+", the radio and all Out being full"] = stepping{otherWorld(w, func(w *impl.CtlWorld) {
			w.Radio = append(w.Radio, repeated(53)...)
			w.Out = repeated(60)
			for i := range w.Stations {
				w.Stations[i].Out = repeated(60)
			}
		}), e}
	}
	all["rises"] = stepping{fallen(busyCellar(), 0, 1), happens(impl.CtlRises, 0, 0)}
	all["east rises"] = stepping{fallen(busyCellar(), 0, 1), happens(impl.CtlRises, 1, 0)}
	for what, w := range someWorlds() {
		for kind := range 15 {
			all[fmt.Sprint(what, ", kind ", kind)] = stepping{w, impl.CtlEvent{Kind: kind, A: kind % 3, Number: 4, Route: route("tun a j c k d vat"), Amount: 1, Places: []string{"k"}, To: "vat"}}
		}
	}
	for what, w := range spoiltWorlds() {
		all[what] = stepping{w, happens(impl.CtlLoses, 0, 0)}
	}
	return all
}

func TestEventsInWorldsThatAreNotOk(t *testing.T) {
	for what, w := range spoiltWorlds() {
		for kind, e := range steppedAll() {
			if len(kind)%3 == len(what)%3 {
				checkStepped(t, what+", "+kind, w, e, impl.CtlWorld{})
			}
		}
		checkStepped(t, what, w, impl.CtlEvent{}, impl.CtlWorld{})
	}
	for what, w := range longWorlds() {
		checkStepped(t, what, w, happens(impl.CtlSays, 0, 0), impl.CtlWorld{})
	}
}

func TestEachKindOfEventChangesSomething(t *testing.T) {
	for what, s := range someSteps() {
		isFull, isOther := strings.Contains(what, "full"), strings.Contains(what, "kind")
		if isFull || isOther || !worldByDefinition(s.World) {
			continue
		}
		if sameWorld(impl.CtlStep(s.World, s.Event), s.World) {
			t.Errorf("%s changes nothing", what)
		}
	}
}

func TestWordsThatAreBroughtToStations(t *testing.T) {
	w := busyCellar()
	w.Radio = w.Radio[:2]
	ask := asked("west", permitOf(9, "", "a"))
	for _, brought := range []struct {
		word  impl.CtlWord
		meter int
	}{
		{ask, 0}, {asked("east", permitOf(2, "keg", "")), 0}, {said(impl.CtlGoes, "east", 3, 0), 2}, {said(impl.CtlStops, "east", 3, 0), 2},
		{said(impl.CtlStops, "west", 3, 0), 0}, {said(impl.CtlStops, "mid", 6, 0), 1}, {said(impl.CtlStops, "turn", 6, 0), 1}, {said(impl.CtlStops, "turn", 3, 0), 0},
		{said(impl.CtlStops, "west", 1, 0), 1000}, {over("west", 2, 3, false), 0}, {over("east", 3, 3, false), 2},
	} {
		for at := range 3 {
			full := copied(w)
			full.Radio = slices.Insert(full.Radio, at, brought.word)
			station := slices.Index([]string{"east", "mid", "turn", "west"}, brought.word.Station)
			want := copied(w)
			want.Stations[station] = hearsByDefinition(w.Stations[station], brought.word, brought.meter)
			checkStepped(t, "brought", full, happens(impl.CtlBrings, at, 0), want)
			checkStepped(t, "brought to one that fell", fallen(full, station+1), happens(impl.CtlBrings, at, 0), fallen(w, station+1))
			checkStepped(t, "brought, the master being down", fallen(full, 0), happens(impl.CtlBrings, at, 0), fallen(want, 0))
		}
	}
	// What was stopped tells by the meter of its own station alone.
	w = onRadio(w, said(impl.CtlStops, "east", 3, 0))
	w.Meters = []impl.CtlMeter{{Number: 2, Station: "east", Moved: 7}, {Number: 3, Station: "mid", Moved: 8}, {Number: 4, Station: "east", Moved: 9}}
	if after := impl.CtlStep(w, happens(impl.CtlBrings, 0, 0)); after.Stations[0].Out[1].Moved != 0 {
		t.Errorf("%+v", after.Stations[0].Out)
	}
}

func TestWordsThatAreBroughtToTheMaster(t *testing.T) {
	w := busyCellar()
	w.Mind.Jobs[0] = in(impl.CtlAsking, "east", 0, w.Mind.Jobs[0])
	for _, word := range []impl.CtlWord{
		said(impl.CtlGrants, "turn", 3, 0), said(impl.CtlDenies, "turn", 3, 0), said(impl.CtlStopped, "turn", 6, 1), said(impl.CtlSigned, "", 4, 0), said(impl.CtlGone, "mid", 6, 0), said(impl.CtlGrants, "turn", 5, 0),
	} {
		from := onRadio(w, word, said(impl.CtlGoes, "east", 3, 0))
		want := onRadio(w, from.Radio[1])
		want.Mind = tellByDefinition(w.Plant, w.Mind, word)
		checkStepped(t, "brought", from, happens(impl.CtlBrings, 0, 0), want)
		if isHeard := !sameMaster(want.Mind, w.Mind); isHeard != (word.Kind != impl.CtlGone && word.Number != 5) {
			t.Errorf("%+v is heard: %v", word, isHeard)
		}
		checkStepped(t, "brought to one that fell", fallen(from, 0), happens(impl.CtlBrings, 0, 0), fallen(onRadio(w, from.Radio[1]), 0))
	}
}

func TestWordsThatAreBroughtToWhoWorks(t *testing.T) {
	for _, one := range []struct{ inside, tags, behind []int }{
		{nil, nil, []int{4}}, {[]int{4}, nil, []int{4}}, {[]int{1, 3}, nil, []int{1, 3, 4}}, {[]int{5, 7}, []int{3, 6}, []int{4, 5, 7}}, {[]int{3, 5}, nil, []int{3, 4, 5}},
		{nil, []int{4}, nil}, {[]int{3, 5}, []int{1, 4, 6}, []int{3, 5}},
	} {
		w := onRadio(busyCellar(), said(impl.CtlEnter, "", 4, 0), said(impl.CtlGoes, "east", 3, 0))
		w.Inside, w.Tags = one.inside, one.tags
		isTagged := slices.Contains(one.tags, 4)
		for _, down := range [][]int{nil, {0}, {0, 1, 2, 3, 4}} {
			checkChanges(t, "a permit", fallen(w, down...), happens(impl.CtlBrings, 0, 0), func(w *impl.CtlWorld) {
				w.Inside, w.Radio = one.behind, w.Radio[1:]
				if isTagged {
					w.Radio = append(w.Radio, said(impl.CtlSigned, "", 4, 0))
				}
			})
		}
	}
	// Where the radio was full there is room for the answer, as the word is taken out.
	w := onRadio(busyCellar(), append(repeated(59), said(impl.CtlEnter, "", 2, 0))...)
	checkChanges(t, "a full radio", w, happens(impl.CtlBrings, 59, 0), func(w *impl.CtlWorld) { w.Radio[59] = said(impl.CtlSigned, "", 2, 0) })
}

func TestWordsThatAreDoubledOrLost(t *testing.T) {
	for _, w := range []impl.CtlWorld{busyCellar(), fallen(busyCellar(), 0, 1, 2, 3, 4)} {
		for at := range w.Radio {
			checkChanges(t, "doubled", w, happens(impl.CtlDoubles, at, 0), func(w *impl.CtlWorld) { w.Radio = append(w.Radio, w.Radio[at]) })
			checkChanges(t, "lost", w, happens(impl.CtlLoses, at, 0), func(w *impl.CtlWorld) { w.Radio = slices.Delete(w.Radio, at, at+1) })
		}
	}
	for _, many := range []int{0, 1, 2, 58, 59, 60} {
		w := onRadio(busyCellar(), repeated(many)...)
		for _, at := range farPlaces(many) {
			for _, kind := range []int{impl.CtlBrings, impl.CtlDoubles, impl.CtlLoses} {
				checkNothingHappens(t, "no word", w, happens(kind, at, 0))
			}
		}
		if many == 60 {
			checkNothingHappens(t, "doubled, the radio being full", w, happens(impl.CtlDoubles, 0, 0))
			checkNothingHappens(t, "doubled, the radio being full", w, happens(impl.CtlDoubles, 59, 0))
		} else if many > 0 {
			checkChanges(t, "doubled", w, happens(impl.CtlDoubles, many-1, 0), func(w *impl.CtlWorld) { w.Radio = repeated(many + 1) })
		}
		if many > 0 {
			checkChanges(t, "lost", w, happens(impl.CtlLoses, many-1, 0), func(w *impl.CtlWorld) { w.Radio = repeated(many - 1) })
		}
	}
}

func TestComputersThatWrite(t *testing.T) {
	w := busyCellar()
	checkChanges(t, "the master", w, happens(impl.CtlWrites, 0, 0), func(w *impl.CtlWorld) {
		w.Disk, w.Radio, w.Out = w.Mind, append(w.Radio, w.Out...), nil
	})
	for at := range w.Stations {
		w.Stations[at].Mind.Seen = 20 + at
		checkChanges(t, "a station", w, happens(impl.CtlWrites, at+1, 0), func(w *impl.CtlWorld) {
			s := &w.Stations[at]
			s.Disk, w.Radio, s.Out = s.Mind, append(w.Radio, s.Out...), nil
		})
	}
	for at := range 5 {
		checkNothingHappens(t, "not up", fallen(w, at), happens(impl.CtlWrites, at, 0))
	}
	for _, many := range []int{57, 58, 59, 60} {
		full := onRadio(w, repeated(many)...)
		for at, out := range map[int][]impl.CtlWord{0: w.Out, 3: w.Stations[2].Out} {
			checkChanges(t, "a full radio", full, happens(impl.CtlWrites, at, 0), func(w *impl.CtlWorld) {
				w.Radio = append(w.Radio, out[:min(2, 60-many)]...)
				if at == 0 {
					w.Disk, w.Out = w.Mind, nil
				} else {
					w.Stations[2].Disk, w.Stations[2].Out = w.Stations[2].Mind, nil
				}
			})
		}
	}
	full := onRadio(w)
	full.Out = append(repeated(59), w.Out[0])
	checkChanges(t, "as much as there can be", full, happens(impl.CtlWrites, 0, 0), func(w *impl.CtlWorld) { w.Disk, w.Radio, w.Out = w.Mind, w.Out, nil })
}

func TestComputersThatFallAndRise(t *testing.T) {
	w := busyCellar()
	for at := range 5 {
		down := fallen(w, at)
		checkStepped(t, "falls", w, happens(impl.CtlFalls, at, 0), down)
		checkNothingHappens(t, "has fallen", down, happens(impl.CtlFalls, at, 0))
		checkNothingHappens(t, "is up", w, happens(impl.CtlRises, at, 0))
		checkChanges(t, "rises", down, happens(impl.CtlRises, at, 0), func(w *impl.CtlWorld) {
			if at == 0 {
				w.Up, w.Mind = true, w.Disk
			} else {
				w.Stations[at-1] = impl.CtlStation{Up: true, Mind: w.Stations[at-1].Disk, Disk: w.Stations[at-1].Disk}
			}
		})
		all := fallen(w, 0, 1, 2, 3, 4)
		checkStepped(t, "the last of all falls", impl.CtlStep(all, happens(impl.CtlRises, at, 0)), happens(impl.CtlFalls, at, 0), all)
	}
	for _, at := range farPlaces(5) {
		for _, kind := range []int{impl.CtlWrites, impl.CtlFalls, impl.CtlRises} {
			for _, down := range [][]int{nil, {0, 1, 2, 3, 4}} {
				checkNothingHappens(t, "no computer", fallen(w, down...), happens(kind, at, 0))
			}
		}
	}
	// A world without stations has a master.
	checkChanges(t, "nothing rises", impl.CtlWorld{}, happens(impl.CtlRises, 0, 0), func(w *impl.CtlWorld) { w.Up = true })
	checkNothingHappens(t, "no station", impl.CtlWorld{Up: true}, happens(impl.CtlFalls, 1, 0))
}

// What was not written is lost by a fall, and what was on is not on any more.
func TestWhatAFallLeaves(t *testing.T) {
	w := begun(cellar(), fill("l1", "ale", "keg", 12))
	move := impl.CtlEvent{Kind: impl.CtlMoves, Route: route("keg b j a tun"), Amount: 5}
	for _, e := range []impl.CtlEvent{move, happens(impl.CtlFalls, 0, 0), happens(impl.CtlRises, 0, 0)} {
		w = impl.CtlStep(w, e)
	}
	if !sameWorld(w, begun(cellar(), fill("l1", "ale", "keg", 12))) {
		t.Errorf("%+v", w.Mind)
	}
	for _, e := range []impl.CtlEvent{move, happens(impl.CtlSays, 0, 0), happens(impl.CtlWrites, 0, 0), happens(impl.CtlFalls, 0, 0), happens(impl.CtlRises, 0, 0)} {
		w = impl.CtlStep(w, e)
	}
	if len(w.Mind.Jobs) != 1 || len(w.Radio) != 3 || len(w.Out) != 0 {
		t.Errorf("%+v", w)
	}
	w = busyCellar()
	w = impl.CtlStep(impl.CtlStep(w, happens(impl.CtlFalls, 1, 0)), happens(impl.CtlRises, 1, 0))
	if len(w.Stations[0].Mind.Parts) != 1 || len(w.Stations[0].On) != 0 || len(w.Stations[0].Out) != 0 {
		t.Errorf("%+v", w.Stations[0])
	}
	checkOpened(t, "risen", w, "a")
}

func TestWhatTheMasterBegins(t *testing.T) {
	w := busyCellar()
	w.Mind.Jobs = w.Mind.Jobs[2:]
	for what, e := range map[string]impl.CtlEvent{
		"a move":            {Kind: impl.CtlMoves, Route: route("keg b j a tun"), Amount: 5},
		"a move back":       {Kind: impl.CtlMoves, Route: route("tun a j b keg"), Amount: 1000},
		"a clean":           {Kind: impl.CtlPlaces, Number: impl.ClaimClean, Places: []string{"j", "k"}},
		"a permit":          {Kind: impl.CtlPlaces, Number: impl.ClaimPermit, Places: []string{"tun"}},
		"halts":             {Kind: impl.CtlHalts, Number: 9},
		"no route":          {Kind: impl.CtlMoves, Route: route("keg b j a tuns"), Amount: 5},
		"no amount":         {Kind: impl.CtlMoves, Route: route("keg b j a tun"), Amount: 0},
		"too much":          {Kind: impl.CtlMoves, Route: route("keg b j a tun"), Amount: 1001},
		"a used place":      {Kind: impl.CtlMoves, Route: route("tun a j c k d vat"), Amount: 1},
		"no kind":           {Kind: impl.CtlPlaces, Number: impl.ClaimMove, Places: []string{"tun"}},
		"no places":         {Kind: impl.CtlPlaces, Number: impl.ClaimPermit},
		"places backwards":  {Kind: impl.CtlPlaces, Number: impl.ClaimPermit, Places: []string{"tun", "j"}},
		"what is used":      {Kind: impl.CtlPlaces, Number: impl.ClaimPermit, Places: []string{"vat"}},
		"no job":            {Kind: impl.CtlHalts, Number: 3},
		"halted already":    {Kind: impl.CtlHalts, Number: 6},
		"far too long":      {Kind: impl.CtlPlaces, Number: impl.ClaimPermit, Places: numbered("s", 20000)},
		"nothing to be had": {Kind: impl.CtlMoves, Route: route("vat d k c j a tun"), Amount: 1},
	} {
		from := otherWorld(w, func(w *impl.CtlWorld) {
			w.Mind.Last, w.Mind.Jobs = 9, append(w.Mind.Jobs, stillJob(9, impl.ClaimPermit, "k"))
		})
		if strings.Contains(what, "clean") || strings.Contains(what, "nothing") {
			from.Mind.Jobs = nil
		}
		if what == "nothing to be had" {
			from.Mind.Left = leftIn(w.Plant, "tun:ale")
		}
		var book impl.CtlMaster
		code := 0
		switch e.Kind {
		case impl.CtlMoves:
			book, code = moveByDefinition(w.Plant, from.Mind, e.Route, e.Amount)
		case impl.CtlPlaces:
			book, code = placeByDefinition(w.Plant, from.Mind, e.Number, e.Places)
		default:
			book, code = haltByDefinition(w.Plant, from.Mind, e.Number)
		}
		isGood := slices.Contains([]string{"a move", "a move back", "a clean", "a permit", "halts"}, what)
		if (code == 0) != isGood {
			t.Errorf("%s: %d", what, code)
		}
		for _, a := range []int{0, 1, -7, math.MaxInt} {
			e.A = a
			if isGood {
				checkChanges(t, what, from, e, func(w *impl.CtlWorld) { w.Mind = book })
			} else {
				checkNothingHappens(t, what, from, e)
			}
			checkNothingHappens(t, what+", the master being down", fallen(from, 0), e)
		}
	}
}

func TestWhatTheMasterSays(t *testing.T) {
	w := busyCellar()
	say := sayByDefinition(w.Plant, w.Mind)
	if len(say) != 7 {
		t.Fatalf("%+v", say)
	}
	for _, many := range []int{0, 1, 52, 53, 54, 59, 60} {
		from := copied(w)
		from.Out = repeated(many)
		for _, a := range []int{0, 9, -1} {
			if many == 60 {
				checkNothingHappens(t, "a full Out", from, happens(impl.CtlSays, a, 0))
			} else {
				checkChanges(t, "says", from, happens(impl.CtlSays, a, 0), func(w *impl.CtlWorld) { w.Out = append(w.Out, say[:min(7, 60-many)]...) })
			}
			checkNothingHappens(t, "down", fallen(from, 0), happens(impl.CtlSays, a, 0))
		}
	}
	checkNothingHappens(t, "nothing to say", begun(cellar()), happens(impl.CtlSays, 0, 0))
}

// flowing is the busy cellar with what is wet in these places alone.
func flowing(wet string) impl.CtlWorld {
	w := busyCellar()
	w.Wet = leftIn(w.Plant, wet)
	return w
}

func TestWhatFlows(t *testing.T) {
	w := flowing("keg:ale tun:malt k:lye")
	for _, a := range []int{0, 3, -1} {
		e := flows(3, "tun")
		e.A = a
		checkChanges(t, "one more", w, e, func(w *impl.CtlWorld) {
			w.Stuff.Vessels[0], w.Stuff.Vessels[1] = vessel("keg", 20, "l1:9", "l1"), vessel("tun", 40, "l1:3 m1:3", "l1 m1")
			w.Meters[1].Moved = 3
			w.Wet = leftIn(w.Plant, "keg:ale j:ale tun:ale,malt k:lye")
		})
	}
	first := otherWorld(w, func(w *impl.CtlWorld) { w.Meters = slices.Delete(w.Meters, 1, 2) })
	checkChanges(t, "the first one", first, flows(3, "tun"), func(w *impl.CtlWorld) {
		w.Stuff, _ = stepByDefinition(w.Stuff, moves("keg", "tun", 1))
		w.Meters = slices.Insert(w.Meters, 1, impl.CtlMeter{Number: 3, Station: "east", Moved: 1})
		w.Wet = leftIn(w.Plant, "keg:ale j:ale tun:ale,malt k:lye")
	})
	for moved := 1; moved <= 6; moved++ {
		w.Meters[1].Moved = moved
		if moved >= 5 {
			checkNothingHappens(t, "all was moved", w, flows(3, "tun"))
			continue
		}
		checkChanges(t, "not all was moved", w, flows(3, "tun"), func(w *impl.CtlWorld) {
			w.Stuff, _ = stepByDefinition(w.Stuff, moves("keg", "tun", 1))
			w.Meters[1].Moved++
			w.Wet = leftIn(w.Plant, "keg:ale j:ale tun:ale,malt k:lye")
		})
	}
}

func TestWhatDoesNotFlow(t *testing.T) {
	w := flowing("keg:ale")
	for _, number := range []int{math.MinInt, -3, 0, 1, 2, 4, 5, 6, 7, 1000001, math.MaxInt} {
		checkNothingHappens(t, "no pump", w, flows(number, "tun"))
	}
	for _, to := range append(noNames(), "j", "k", "keg", "vat", "a", "b", "east") {
		checkNothingHappens(t, "not there: "+to[:min(len(to), 9)], w, flows(3, to))
	}
	for at, what := range map[int]string{1: "the pump fell", 4: "what lies behind fell"} {
		checkNothingHappens(t, what, fallen(w, at), flows(3, "tun"))
	}
	for at, what := range map[int]string{0: "the pump is not on", 3: "what lies behind is not on"} {
		checkNothingHappens(t, what, otherWorld(w, func(w *impl.CtlWorld) { w.Stations[at].On = nil }), flows(3, "tun"))
	}
	checkNothingHappens(t, "the pump was stopped", otherWorld(w, func(w *impl.CtlWorld) { w.Stations[0].On, w.Stations[0].Mind.Parts[0].Stopped = nil, true }), flows(3, "tun"))
	checkNothingHappens(t, "nothing is in it", otherWorld(w, func(w *impl.CtlWorld) { w.Stuff.Vessels[0].Parts = nil }), flows(3, "tun"))
	for _, at := range []int{0, 2, 3} {
		checkStepByReading(t, "others may be down", fallen(w, at), flows(3, "tun"))
		if sameWorld(fallen(w, at), impl.CtlStep(fallen(w, at), flows(3, "tun"))) {
			t.Errorf("%d fell, and nothing flows", at)
		}
	}
}

func TestWhatIsSpiltByAFlow(t *testing.T) {
	spill := func(w *impl.CtlWorld) { w.Spilt = true }
	full := otherWorld(flowing("keg:ale"), func(w *impl.CtlWorld) { w.Stuff.Vessels[1] = vessel("tun", 40, "l1:2 m1:38", "l1 m1") })
	checkChanges(t, "more than it holds", full, flows(3, "tun"), spill)
	full.Stuff.Vessels[1] = vessel("tun", 40, "l1:2 m1:37", "l1 m1")
	if after := impl.CtlStep(full, flows(3, "tun")); after.Spilt || after.Meters[1].Moved != 3 {
		t.Errorf("just as much as it holds: %+v", after)
	}
	foes := otherWorld(flowing("keg:ale"), func(w *impl.CtlWorld) {
		w.Stuff.Lots = lots("l1:ale m1:lye")
		w.Stuff.Vessels[1] = vessel("tun", 40, "m1:3", "m1")
	})
	checkChanges(t, "foes in the vessels", foes, flows(3, "tun"), spill)
	foes.Spilt = true
	checkNothingHappens(t, "spilt already", foes, flows(3, "tun"))
	left := otherWorld(flowing("keg:ale"), func(w *impl.CtlWorld) {
		w.Stuff.Lots = lots("l1:ale m1:lye")
		w.Stuff.Vessels[1] = vessel("tun", 40, "", "m1")
	})
	checkChanges(t, "a foe that may be left", left, flows(3, "tun"), spill)
	both := otherWorld(full, func(w *impl.CtlWorld) {
		w.Stuff.Vessels[0], w.Stuff.Vessels[1] = vessel("keg", 20, "", "l1"), vessel("tun", 40, "m1:40", "m1")
	})
	checkNothingHappens(t, "nothing in it, and no room", both, flows(3, "tun"))
}

func TestMetersOfWhatFlows(t *testing.T) {
	full := fullCellar()
	full.Spilt, full.Wet = false, flowing("").Wet
	checkNothingHappens(t, "60 others", full, flows(3, "tun"))
	spilling := otherWorld(full, func(w *impl.CtlWorld) { w.Stuff.Vessels[1] = vessel("tun", 40, "m1:40", "l1 m1") })
	checkNothingHappens(t, "60 others, and no room", spilling, flows(3, "tun"))
	with := otherWorld(full, func(w *impl.CtlWorld) { w.Meters[0] = impl.CtlMeter{Number: 3, Station: "east", Moved: 1} })
	checkChanges(t, "59 others", with, flows(3, "tun"), func(w *impl.CtlWorld) {
		w.Stuff, _ = stepByDefinition(w.Stuff, moves("keg", "tun", 1))
		w.Meters[0].Moved = 2
	})
	without := otherWorld(full, func(w *impl.CtlWorld) { w.Meters = w.Meters[:59] })
	checkChanges(t, "59, and this one", without, flows(3, "tun"), func(w *impl.CtlWorld) {
		w.Stuff, _ = stepByDefinition(w.Stuff, moves("keg", "tun", 1))
		w.Meters = slices.Insert(w.Meters, 1, impl.CtlMeter{Number: 3, Station: "east", Moved: 1})
	})
	for meters, at := range map[string]int{"": 0, "2:west": 1, "3:mid": 0, "3:mid 4:east": 0, "1:east 3:turn 3:west": 1} {
		w := flowing("keg:ale j:ale tun:ale,malt")
		w.Meters = nil
		for _, field := range strings.Fields(meters) {
			number, station, _ := strings.Cut(field, ":")
			n, _ := strconv.Atoi(number)
			w.Meters = append(w.Meters, impl.CtlMeter{Number: n, Station: station, Moved: 9})
		}
		checkChanges(t, meters, w, flows(3, "tun"), func(w *impl.CtlWorld) {
			w.Stuff, _ = stepByDefinition(w.Stuff, moves("keg", "tun", 1))
			w.Meters = slices.Insert(w.Meters, at, impl.CtlMeter{Number: 3, Station: "east", Moved: 1})
		})
	}
}

// star has a joint j between the vessels p, q, r and the joint k, behind which lie the joint m and the vessel s; all valves are of one station, and open under one part that pumps out of p.
func star(opens string) impl.CtlWorld {
	p := written("stuff ale", "stuff lye", "stuff malt", "stuff wine", "foe ale lye", "foe malt wine",
		"joint j e", "joint k e", "joint m e", "vessel p 9 e", "vessel q 9 e", "vessel r 9 w", "vessel s 9 e",
		"valve a p j e", "valve b j q e", "valve c j r e", "valve d j k e", "valve f k m e", "valve g m s e", "valve h p s w")
	w := begun(p, fill("l1", "ale", "p", 9))
	s := &w.Stations[0]
	s.Mind.Parts = granted(moveOf(3, "ale malt", "p>4", opens, ""))
	s.Mind.Spots[3].Least, s.Mind.Seen = 0, 3
	s.On = []int{3}
	return w
}

func TestWhatBecomesWet(t *testing.T) {
	for _, one := range []struct{ opens, to, wet, behind string }{
		{"a b", "q", "p:ale", "p:ale j:ale q:ale"},
		{"a b", "q", "", ""},
		{"a b", "q", "q:lye", "q:lye"},
		{"a b", "q", "j:malt", "j:malt q:malt"},
		{"a b", "q", "p:ale j:malt q:wine", "p:ale j:ale,malt q:ale,malt,wine !"},
		{"a b", "q", "p:ale j:lye", "p:ale j:ale,lye q:ale,lye !"},
		{"a b", "q", "p:ale q:lye", "p:ale j:ale q:ale,lye !"},
		{"a b", "q", "p:ale,lye", "p:ale,lye j:ale,lye q:ale,lye !"},
		{"a b", "q", "p:ale j:wine r:lye k:malt m:lye s:lye", "p:ale j:ale,wine q:ale,wine r:lye k:malt m:lye s:lye"},
		{"a b c", "q", "p:ale", "p:ale j:ale q:ale r:ale"},
		{"a b c", "r", "p:ale r:lye", "p:ale j:ale q:ale r:ale,lye !"},
		{"a b c", "q", "p:ale r:lye", "p:ale j:ale q:ale r:ale,lye !"},
		{"a b c", "q", "p:ale r:malt,wine", "p:ale j:ale q:ale r:ale,malt,wine !"},
		{"a b d", "q", "p:ale k:malt", "p:ale j:ale,malt k:ale,malt q:ale,malt"},
		{"a b d f", "q", "p:ale m:wine k:malt", "p:ale j:ale,malt,wine k:ale,malt,wine m:ale,malt,wine q:ale,malt,wine !"},
		{"a b d f", "q", "p:ale m:malt s:lye", "p:ale j:ale,malt k:ale,malt m:ale,malt q:ale,malt s:lye"},
		{"a b d g", "q", "p:ale m:malt", "p:ale j:ale k:ale q:ale m:malt"},
		{"a d f g", "s", "p:ale q:lye m:malt", "p:ale j:ale,malt k:ale,malt m:ale,malt s:ale,malt q:lye"},
		{"a d f g", "s", "s:lye j:ale", "j:ale k:ale m:ale s:ale,lye !"},
		{"a d f g", "s", "s:malt", "s:malt"},
		{"a b c d f g", "s", "q:ale r:lye s:malt", "q:ale r:lye s:malt"},
	} {
		w := star(one.opens)
		w.Wet = leftIn(w.Plant, one.wet)
		behind, isSpilt := strings.CutSuffix(one.behind, " !")
		for _, was := range []bool{false, true} {
			w.Spilt = was
			checkChanges(t, fmt.Sprint(one), w, flows(3, one.to), func(w *impl.CtlWorld) {
				w.Stuff, _ = stepByDefinition(w.Stuff, moves("p", one.to, 1))
				w.Meters = []impl.CtlMeter{{Number: 3, Station: "e", Moved: 1}}
				w.Wet, w.Spilt = leftIn(w.Plant, behind), was || isSpilt
			})
		}
	}
	for _, one := range []string{"a q", "b q", "a c q", "a b d f s", "a b s", "d f g s"} {
		fields := strings.Fields(one)
		opens, to := strings.Join(fields[:len(fields)-1], " "), fields[len(fields)-1]
		checkNothingHappens(t, one, star(opens), flows(3, to))
	}
}

// The first station with the number in On and a place to pump from does so; a station with the number alone does not.
func TestWhoPumps(t *testing.T) {
	p := written("stuff ale", "vessel p 9 e", "vessel q 9 f", "vessel r 9 g", "valve a p r e", "valve b q r f", "valve c p q g")
	base := begun(p, fill("l1", "ale", "p", 5), fill("l2", "ale", "q", 5))
	for _, one := range []struct {
		wants [3]impl.ClaimWant
		from  string
	}{
		{[3]impl.ClaimWant{moveOf(3, "ale", "p>2", "a", ""), moveOf(3, "ale", "q>2", "b", ""), moveOf(3, "ale", "r<2", "", "")}, "p"},
		{[3]impl.ClaimWant{moveOf(3, "ale", "p<2", "a", ""), moveOf(3, "ale", "q>2", "b", ""), moveOf(3, "ale", "r<2", "", "")}, "q"},
		{[3]impl.ClaimWant{moveOf(3, "ale", "", "a", ""), moveOf(3, "ale", "q>2", "b", ""), moveOf(3, "ale", "r<2", "", "")}, "q"},
		{[3]impl.ClaimWant{moveOf(4, "ale", "p>2", "a", ""), moveOf(3, "ale", "q>2", "b", ""), moveOf(3, "ale", "r<2", "", "")}, "q"},
		{[3]impl.ClaimWant{moveOf(3, "ale", "p", "a", ""), moveOf(3, "ale", "q", "b", ""), moveOf(3, "ale", "r<2", "", "")}, ""},
		{[3]impl.ClaimWant{permitOf(3, "p", ""), moveOf(3, "ale", "q<1", "b", ""), permitOf(3, "r", "")}, ""},
	} {
		for downs := range 8 {
			w := copied(base)
			for i, want := range one.wants {
				grantStation(&w, i, want)
			}
			var down []int
			for i := range 3 {
				if downs>>i&1 == 1 {
					down = append(down, i+1)
				}
			}
			w = fallen(w, down...)
			e := flows(3, "r")
			after := impl.CtlStep(w, e)
			checkStepByReading(t, "who pumps", w, e)
			if downs == 0 && one.from == "" && !sameWorld(after, w) {
				t.Errorf("somebody pumps: %+v", after)
			}
			if downs == 0 && one.from != "" && (len(after.Meters) != 1 || after.Meters[0] != impl.CtlMeter{Number: 3, Station: choose(one.from == "p", "e", "f"), Moved: 1}) {
				t.Errorf("%s should be pumped: %+v", one.from, after)
			}
		}
	}
	// Of two places that one part pumps from the first is taken, with what is to come out of it.
	two := begun(written("stuff ale", "vessel p 9 e", "vessel q 9 e", "vessel r 9 e", "valve a p r e", "valve b q r e"), fill("l1", "ale", "p", 5), fill("l2", "ale", "q", 5))
	grantStation(&two, 0, moveOf(3, "ale", "p>1 q>4", "a b", ""))
	after := impl.CtlStep(two, flows(3, "r"))
	if len(after.Meters) != 1 || after.Stuff.Vessels[0].Parts[0].Amount != 4 {
		t.Errorf("%+v", after)
	}
	checkNothingHappens(t, "the first has no more to come", after, flows(3, "r"))
	checkStepByReading(t, "two places", two, flows(3, "r"))
	checkStepByReading(t, "from the one to the other", two, flows(3, "q"))
}

// grantStation lets a station grant a want, in mind alone, and have it in On.
func grantStation(w *impl.CtlWorld, at int, want impl.ClaimWant) {
	s := &w.Stations[at]
	mind, code := grantByDefinition(s.Mind, want)
	if code != 0 {
		panic(fmt.Sprint(code, want))
	}
	s.Mind, s.On = mind, append(s.On, want.Number)
}

// cleaningCellar is the cellar with a cleaning of the vat and the joint k, which mid cleans and turn keeps shut.
func cleaningCellar() impl.CtlWorld {
	w := begun(cellar(), fill("l1", "ale", "keg", 12))
	w.Stuff.Lots, w.Stuff.Vessels[2] = lots("l1:ale m1:malt"), vessel("vat", 9, "", "m1")
	w.Wet = leftIn(w.Plant, "j:ale k:lye,malt keg:ale vat:malt")
	grantAll(&w, in(impl.CtlRunning, "", 0, stillJob(5, impl.ClaimClean, "k vat")))
	return w
}

func TestWhatIsCleaned(t *testing.T) {
	w := cleaningCellar()
	checkChanges(t, "the vat and k", w, happens(impl.CtlCleans, 2, 5), func(w *impl.CtlWorld) {
		w.Meters = []impl.CtlMeter{{Number: 5, Station: "mid", Moved: 1}}
		w.Wet, w.Stuff.Vessels[2].May = leftIn(w.Plant, "j:ale keg:ale"), nil
	})
	checkChanges(t, "no place of its own", w, happens(impl.CtlCleans, 3, 5), func(w *impl.CtlWorld) {
		w.Meters = []impl.CtlMeter{{Number: 5, Station: "turn", Moved: 1}}
	})
	for _, at := range append(farPlaces(5), 0, 1, 4) {
		checkNothingHappens(t, "no station, or none that cleans", w, happens(impl.CtlCleans, at, 5))
	}
	for _, number := range []int{math.MinInt, -1, 0, 1, 4, 6, 1000001, math.MaxInt} {
		checkNothingHappens(t, "no part", w, happens(impl.CtlCleans, 2, number))
	}
	checkNothingHappens(t, "down", fallen(w, 2), happens(impl.CtlCleans, 2, 5))
	checkNothingHappens(t, "not on", otherWorld(w, func(w *impl.CtlWorld) { w.Stations[1].On = nil }), happens(impl.CtlCleans, 2, 5))
	checkNothingHappens(t, "stopped", otherWorld(w, func(w *impl.CtlWorld) { w.Stations[1].On, w.Stations[1].Mind.Parts[0].Stopped = nil, true }), happens(impl.CtlCleans, 2, 5))
	for _, moved := range []int{1, 2, 1000} {
		once := otherWorld(w, func(w *impl.CtlWorld) { w.Meters = []impl.CtlMeter{{Number: 5, Station: "mid", Moved: moved}} })
		checkNothingHappens(t, "cleaned already", once, happens(impl.CtlCleans, 2, 5))
	}
	others := []impl.CtlMeter{{Number: 4, Station: "mid", Moved: 1}, {Number: 5, Station: "east", Moved: 1}, {Number: 5, Station: "turn", Moved: 1}, {Number: 6, Station: "mid", Moved: 1}}
	checkChanges(t, "beside other meters", otherWorld(w, func(w *impl.CtlWorld) { w.Meters = others }), happens(impl.CtlCleans, 2, 5), func(w *impl.CtlWorld) {
		w.Meters = slices.Insert(w.Meters, 2, impl.CtlMeter{Number: 5, Station: "mid", Moved: 1})
		w.Wet, w.Stuff.Vessels[2].May = leftIn(w.Plant, "j:ale keg:ale"), nil
	})
	for _, many := range []int{59, 60} {
		full := otherWorld(w, func(w *impl.CtlWorld) { w.Meters = fullCellar().Meters[:many] })
		if many == 60 {
			checkNothingHappens(t, "no room for a meter", full, happens(impl.CtlCleans, 2, 5))
			continue
		}
		checkChanges(t, "room for one", full, happens(impl.CtlCleans, 2, 5), func(w *impl.CtlWorld) {
			w.Meters = slices.Insert(w.Meters, 1, impl.CtlMeter{Number: 5, Station: "mid", Moved: 1})
			w.Wet, w.Stuff.Vessels[2].May = leftIn(w.Plant, "j:ale keg:ale"), nil
		})
	}
}

func TestOtherKindsDoNotClean(t *testing.T) {
	w := busyCellar()
	w.Meters = nil
	for at, number := range map[int]int{1: 3, 2: 4, 4: 3} {
		checkNothingHappens(t, "a move, a permit", w, happens(impl.CtlCleans, at, number))
	}
	checkNothingHappens(t, "a permit that keeps shut", w, happens(impl.CtlCleans, 3, 4))
	checkChanges(t, "a cleaning that keeps shut", w, happens(impl.CtlCleans, 3, 6), func(w *impl.CtlWorld) {
		w.Meters = []impl.CtlMeter{{Number: 6, Station: "turn", Moved: 1}}
	})
}

// What a station believes to be empty may not be so in an ok world.
func TestVesselsThatAreCleanedAndHoldSomething(t *testing.T) {
	p := written("stuff ale", "joint j e", "vessel p 9 e", "vessel q 9 e", "vessel r 9 e")
	for bits := range 8 {
		w := begun(p)
		for i, name := range []string{"p", "q", "r"} {
			w.Stuff.Lots = lots("l1:ale l2:ale")
			w.Stuff.Vessels[i] = vessel(name, 9, choose(bits>>i&1 == 1, "l1:1", ""), "l1 l2")
		}
		w.Wet = leftIn(p, "j:ale p:ale q:ale r:ale")
		grantStation(&w, 0, cleanOf(3, "j p r", ""))
		checkChanges(t, strconv.Itoa(bits), w, happens(impl.CtlCleans, 1, 3), func(w *impl.CtlWorld) {
			w.Meters = []impl.CtlMeter{{Number: 3, Station: "e", Moved: 1}}
			w.Wet = leftIn(p, "q:ale")
			for _, i := range []int{0, 2} {
				if bits>>i&1 == 1 {
					w.Spilt = true
				} else {
					w.Stuff.Vessels[i].May = nil
				}
			}
		})
	}
}

func TestWhoSignsOff(t *testing.T) {
	for _, one := range []struct{ inside, tags, left, behind []int }{
		{[]int{4}, nil, nil, []int{4}}, {[]int{3, 4, 9}, []int{5}, []int{3, 9}, []int{4, 5}}, {[]int{4, 6}, []int{1, 5}, []int{6}, []int{1, 4, 5}}, {[]int{2, 4}, []int{1}, []int{2}, []int{1, 4}},
	} {
		for _, many := range []int{0, 1, 59, 60} {
			w := onRadio(busyCellar(), repeated(many)...)
			w.Inside, w.Tags = one.inside, one.tags
			for _, down := range [][]int{nil, {0}, {0, 1, 2, 3, 4}} {
				checkChanges(t, "signs off", fallen(w, down...), happens(impl.CtlSigns, 9, 4), func(w *impl.CtlWorld) {
					w.Inside, w.Tags = one.left, one.behind
					if many < 60 {
						w.Radio = append(w.Radio, said(impl.CtlSigned, "", 4, 0))
					}
				})
			}
		}
	}
	w := busyCellar()
	for _, number := range []int{math.MinInt, -4, 0, 1, 2, 3, 5, 1000001, 4 + 1<<32, math.MaxInt} {
		checkNothingHappens(t, "nobody inside", w, happens(impl.CtlSigns, 0, number))
	}
	w.Inside = nil
	checkNothingHappens(t, "nobody at all", w, happens(impl.CtlSigns, 0, 4))
}

// Who has signed off does not go in again, and says so each time.
func TestEnterBehindSigningOff(t *testing.T) {
	w := onRadio(busyCellar(), said(impl.CtlEnter, "", 4, 0), said(impl.CtlEnter, "", 4, 0))
	w = impl.CtlStep(w, happens(impl.CtlSigns, 0, 4))
	for range 2 {
		w = impl.CtlStep(w, happens(impl.CtlBrings, 0, 0))
	}
	want := repeatedSigned(3, 4)
	if len(w.Inside) != 0 || !slices.Equal(w.Tags, []int{1, 2, 4}) || !sameWorld(w, onRadio(w, want...)) {
		t.Errorf("%+v, %+v, %+v", w.Inside, w.Tags, w.Radio)
	}
	w = impl.CtlStep(w, happens(impl.CtlBrings, 0, 0))
	if w.Mind.Jobs[1].State != impl.CtlHalting {
		t.Errorf("%+v", w.Mind.Jobs)
	}
}

func repeatedSigned(many, number int) []impl.CtlWord {
	return slices.Repeat([]impl.CtlWord{said(impl.CtlSigned, "", number, 0)}, many)
}

// writesByDefinition lets a computer write.
func writesByDefinition(w *impl.CtlWorld, at int) {
	if at == 0 && w.Up {
		out := w.Out
		w.Disk, w.Out = copied(w.Mind), nil
		radioByDefinition(w, out...)
	}
	if at > 0 && w.Stations[at-1].Up {
		s := &w.Stations[at-1]
		out := s.Out
		s.Disk, s.Out = copied(s.Mind), nil
		radioByDefinition(w, out...)
	}
}

func radioByDefinition(w *impl.CtlWorld, words ...impl.CtlWord) {
	for _, word := range words {
		if len(w.Radio) < 60 {
			w.Radio = append(slices.Clone(w.Radio), word)
		}
	}
}

func meterByDefinition(w impl.CtlWorld, number int, station string) int {
	for _, m := range w.Meters {
		if m.Number == number && m.Station == station {
			return m.Moved
		}
	}
	return 0
}

// countByDefinition lets a meter tell one more; false, if there is no room for it.
func countByDefinition(w *impl.CtlWorld, number int, station string) bool {
	told := map[string]impl.CtlMeter{}
	for _, m := range w.Meters {
		told[fmt.Sprintf("%09d%s", m.Number, m.Station)] = m
	}
	key := fmt.Sprintf("%09d%s", number, station)
	told[key] = impl.CtlMeter{Number: number, Station: station, Moved: told[key].Moved + 1}
	if len(told) > 60 {
		return false
	}
	w.Meters = nil
	for _, key := range slices.Sorted(maps.Keys(told)) {
		w.Meters = append(w.Meters, told[key])
	}
	return true
}

func bringByDefinition(w *impl.CtlWorld, word impl.CtlWord) {
	switch word.Kind {
	case 9:
		if slices.Contains(w.Tags, word.Number) {
			radioByDefinition(w, said(10, "", word.Number, 0))
		} else {
			w.Inside = slices.Compact(slices.Sorted(slices.Values(append(slices.Clone(w.Inside), word.Number))))
		}
	case 1, 4, 5, 7:
		at := slices.Index(stationsByDefinition(w.Plant), word.Station)
		w.Stations[at] = hearsByDefinition(w.Stations[at], word, meterByDefinition(*w, word.Number, word.Station))
	default:
		if w.Up {
			w.Mind = tellByDefinition(w.Plant, w.Mind, word)
		}
	}
}

// pumpByDefinition is where is pumped from under a number, and by whom.
func pumpByDefinition(w impl.CtlWorld, number int) (impl.ClaimUse, string) {
	for i, name := range stationsByDefinition(w.Plant) {
		for _, p := range w.Stations[i].Mind.Parts {
			for _, u := range p.Want.Uses {
				if p.Want.Number == number && u.Role == 1 && slices.Contains(w.Stations[i].On, number) {
					return u, name
				}
			}
		}
	}
	return impl.ClaimUse{}, ""
}

func flowByDefinition(w *impl.CtlWorld, number int, to string) {
	from, station := pumpByDefinition(*w, number)
	joined := groupByDefinition(w.Plant, slices.Collect(maps.Keys(openedByDefinition(*w))), from.Name)
	isVessel := slices.ContainsFunc(w.Plant.Places, func(x impl.PlantPlace) bool { return x.Name == to && x.Cap > 0 })
	after := copied(*w)
	if station == "" || !isVessel || to == from.Name || !slices.Contains(joined, to) || meterByDefinition(*w, number, station) >= from.Amount || !countByDefinition(&after, number, station) {
		return
	}
	book, code := stepByDefinition(w.Stuff, moves(from.Name, to, 1))
	if code == 6 {
		return
	}
	if code != 0 {
		w.Spilt = true
		return
	}
	after.Stuff = book
	comes := map[string]bool{}
	for i, x := range w.Plant.Places {
		if x.Name == from.Name || x.Cap == 0 && slices.Contains(joined, x.Name) {
			for _, stuff := range w.Wet[i].Stuffs {
				comes[stuff] = true
			}
		}
	}
	for i, x := range w.Plant.Places {
		if x.Name == from.Name || !slices.Contains(joined, x.Name) {
			continue
		}
		all := maps.Clone(comes)
		for _, stuff := range w.Wet[i].Stuffs {
			all[stuff] = true
		}
		after.Wet[i].Stuffs = slices.Sorted(maps.Keys(all))
		after.Spilt = after.Spilt || anyFoes(w.Plant, after.Wet[i].Stuffs)
	}
	*w = after
}

func cleanByDefinition(w *impl.CtlWorld, at, number int) {
	names := stationsByDefinition(w.Plant)
	if at < 1 || at > len(names) || !slices.Contains(w.Stations[at-1].On, number) || meterByDefinition(*w, number, names[at-1]) > 0 {
		return
	}
	for _, p := range w.Stations[at-1].Mind.Parts {
		if p.Want.Number != number || p.Want.Kind != 2 || !countByDefinition(w, number, names[at-1]) {
			continue
		}
		for _, u := range p.Want.Uses {
			for i, x := range w.Plant.Places {
				if x.Name == u.Name {
					w.Wet[i].Stuffs = nil
				}
				if x.Name == u.Name && x.Cap > 0 {
					book, code := stepByDefinition(w.Stuff, cleans(u.Name))
					w.Stuff, w.Spilt = book, w.Spilt || code != 0
				}
			}
		}
	}
}

// stepsByDefinition reads the chapter a second time, of an ok world in memory of its own.
func stepsByDefinition(w *impl.CtlWorld, e impl.CtlEvent) {
	isWord, isComputer := e.A >= 0 && e.A < len(w.Radio), e.A >= 0 && e.A <= len(w.Stations)
	book, code := impl.CtlMaster{}, 1
	switch {
	case e.Kind == 2 && isWord:
		radioByDefinition(w, copied(w.Radio[e.A]))
	case (e.Kind == 1 || e.Kind == 3) && isWord:
		word := w.Radio[e.A]
		w.Radio = slices.Concat(w.Radio[:e.A], w.Radio[e.A+1:])
		if e.Kind == 1 {
			bringByDefinition(w, word)
		}
	case e.Kind == 4 && isComputer:
		writesByDefinition(w, e.A)
	case e.Kind == 5 && isComputer:
		*w = fallen(*w, e.A)
	case e.Kind == 6 && isComputer && e.A == 0 && !w.Up:
		w.Up, w.Mind = true, copied(w.Disk)
	case e.Kind == 6 && isComputer && e.A > 0 && !w.Stations[e.A-1].Up:
		w.Stations[e.A-1].Up, w.Stations[e.A-1].Mind = true, copied(w.Stations[e.A-1].Disk)
	case e.Kind == 7 && w.Up:
		book, code = moveByDefinition(w.Plant, w.Mind, e.Route, e.Amount)
	case e.Kind == 8 && w.Up:
		book, code = placeByDefinition(w.Plant, w.Mind, e.Number, e.Places)
	case e.Kind == 9 && w.Up:
		book, code = haltByDefinition(w.Plant, w.Mind, e.Number)
	case e.Kind == 10 && w.Up:
		for _, word := range sayByDefinition(w.Plant, w.Mind) {
			if len(w.Out) < 60 {
				w.Out = append(slices.Clone(w.Out), word)
			}
		}
	case e.Kind == 11:
		flowByDefinition(w, e.Number, e.To)
	case e.Kind == 12:
		cleanByDefinition(w, e.A, e.Number)
	case e.Kind == 13 && slices.Contains(w.Inside, e.Number):
		w.Inside = slices.DeleteFunc(slices.Clone(w.Inside), func(n int) bool { return n == e.Number })
		w.Tags = slices.Sorted(slices.Values(append(slices.Clone(w.Tags), e.Number)))
		radioByDefinition(w, said(10, "", e.Number, 0))
	}
	if code == 0 {
		w.Mind = book
	}
}

func stepOfWorldByDefinition(w impl.CtlWorld, e impl.CtlEvent) impl.CtlWorld {
	if !worldByDefinition(w) {
		return impl.CtlWorld{}
	}
	after := copied(w)
	stepsByDefinition(&after, e)
	return after
}

func checkStepByReading(t *testing.T, what string, w impl.CtlWorld, e impl.CtlEvent) impl.CtlWorld {
	t.Helper()
	want := stepOfWorldByDefinition(w, e)
	checkStepped(t, what, w, e, want)
	return want
}
