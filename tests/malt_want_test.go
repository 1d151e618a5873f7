package tests

import (
	"math"
	"math/rand"
	"reflect"
	"slices"
	"strings"
	"sync"
	"testing"

	"loop.example/malthouse/impl"
)

func sameEvent(a, b impl.CtlEvent) bool {
	return reflect.DeepEqual(copied(a), copied(b))
}

func checkWants(t *testing.T, what string, w impl.MaltWorld, batch string, want impl.CtlEvent) {
	t.Helper()
	if e, ok := impl.MaltWant(w, batch); !ok || !sameEvent(e, want) {
		t.Errorf("%s: MaltWant of %q = %+v, %v; want %+v: %+v", what, batch, e, ok, want, w)
	}
}

func checkWantsNothing(t *testing.T, what string, w impl.MaltWorld, batches ...string) {
	t.Helper()
	for _, batch := range batches {
		if e, ok := impl.MaltWant(w, batch); ok || !sameEvent(e, impl.CtlEvent{}) {
			t.Errorf("%s: MaltWant of %q = %+v, %v; want nothing: %+v", what, batch, e, ok, w)
		}
	}
}

func checkMeter(t *testing.T, what string, w impl.MaltWorld, number int, place string, want int) {
	t.Helper()
	if got := impl.MaltMeter(w, number, place); got != want {
		t.Errorf("%s: MaltMeter of %d at %q = %d; want %d: %+v", what, number, place, got, want, w)
	}
}

// toMove and toClean are what is asked for.
func toMove(way string, amount int) impl.CtlEvent {
	return impl.CtlEvent{Kind: impl.CtlMoves, Route: route(way), Amount: amount}
}

func toClean(place string) impl.CtlEvent {
	return impl.CtlEvent{Kind: impl.CtlPlaces, Number: impl.ClaimClean, Places: []string{place}}
}

// at1 is a brewery in which b has one phase, for which it needs what its slots are.
func at1(line, slots string) impl.MaltWorld {
	b := batchAt(batchOf("b", recipe(line), slots), strings.Fields(line)[0], 0)
	return brewed(houseOf("jar keg lye malt tun", b))
}

func TestWhatIsWantedAtEachKindOfPhase(t *testing.T) {
	for line, want := range map[string]impl.CtlEvent{
		"p fill s malt 12 9 good saved":     toMove("malt a j b tun", 12),
		"p fill s malt 1 1 saved saved":     toMove("malt a j b tun", 1),
		"p fill s malt 1000 1000 good good": toMove("malt a j b tun", 1000),
		"p fill s lye 3 9 good saved":       toMove("lye f tun", 3),
		"p clean s . 0 9 good saved":        toClean("tun"),
	} {
		checkWants(t, line, at1(line, "s=tun"), "b", want)
	}
	for slots, want := range map[string]impl.CtlEvent{
		"x=tun y=keg": toMove("tun b j c keg", 7), "x=keg y=tun": toMove("keg c j b tun", 7), "x=malt y=keg": toMove("malt a j c keg", 7),
		"x=lye y=tun": toMove("lye f tun", 7), "x=tun y=lye": toMove("tun f lye", 7), "x=tun y=malt": toMove("tun b j a malt", 7),
	} {
		checkWants(t, slots, at1("p move x y 7 9 good saved", slots), "b", want)
		// The slots' names do not tell which is the one and which the other.
		turned := strings.NewReplacer("x=", "y=", "y=", "x=").Replace(slots)
		fields := strings.Fields(turned)
		checkWants(t, turned, at1("p move y x 7 9 good saved", fields[1]+" "+fields[0]), "b", want)
	}
	for _, place := range strings.Fields("jar keg lye malt tun") {
		checkWants(t, place, at1("p clean s . 0 9 good saved", "s="+place), "b", toClean(place))
		checkWantsNothing(t, "it holds", at1("p hold s . 3 9 good saved", "s="+place), "b")
		checkWantsNothing(t, "it looks", at1("p test s . 0 9 good saved", "s="+place), "b")
	}
}

func TestWhatIsWantedWithoutARoute(t *testing.T) {
	for _, slots := range []string{"x=lye y=keg", "x=keg y=lye", "x=jar y=keg", "x=keg y=jar", "x=jar y=lye"} {
		checkWantsNothing(t, slots, at1("p move x y 7 9 good saved", slots), "b")
	}
	for line, slot := range map[string]string{
		"p fill s malt 5 9 good saved": "s=jar", "p fill s lye 5 9 good saved": "s=keg", "p fill s lye 6 9 good saved": "s=lye", "p fill s malt 6 9 good saved": "s=malt",
		"p fill s wort 5 9 good saved": "s=tun", "p fill s good 5 9 good saved": "s=tun", "p fill s j 5 9 good saved": "s=tun", "p fill s a 5 9 good saved": "s=tun", "p fill s m1 5 9 good saved": "s=tun", "p fill s west 5 9 good saved": "s=tun",
	} {
		checkWantsNothing(t, line, at1(line, slot), "b")
	}
	// What is called as the vessel need be no stuff of the plant.
	checkWants(t, "no stuff", at1("p fill s keg 5 9 good saved", "s=tun"), "b", toMove("keg c j b tun", 5))
	checkWants(t, "no stuff, and none there", at1("p fill s tun 5 9 good saved", "s=keg"), "b", toMove("tun b j c keg", 5))
	// There is a stuff, but no vessel that is called as it.
	w := impl.MaltWorld{Ctl: begun(written("stuff ale", "vessel tun 9 w", "vessel vat 9 w", "valve a tun vat w"), fill("l", "ale", "vat", 3)), House: houseOf("tun", batchAt(batchOf("b", recipe("p fill s ale 1 9 good saved"), "s=tun"), "p", 0))}
	checkWantsNothing(t, "no vessel of the stuff", w, "b")
}

// The first of several routes is taken: the one with fewer valves, and then the one that comes first by these.
func TestWhatIsWantedWithSeveralRoutes(t *testing.T) {
	for _, c := range []struct {
		valves []string
		want   string
	}{
		{[]string{"m a j", "n j b", "o a b"}, "a o b"},
		{[]string{"o a j", "n j b", "m a j"}, "a m j n b"},
		{[]string{"a a j", "b j b", "c a k", "d k b"}, "a a j b b"},
		{[]string{"c a j", "b j b", "a a k", "d k b"}, "a a k d b"},
		{[]string{"a a j", "b j k", "c k b", "y a k", "z j b"}, "a a j z b"},
		{[]string{"a a j", "b j k", "c k b"}, "a a j b k c b"},
	} {
		lines := []string{"stuff a", "vessel a 9 w", "vessel b 9 w", "joint j w", "joint k w"}
		for _, valve := range c.valves {
			lines = append(lines, "valve "+valve+" w")
		}
		fills := batchAt(batchOf("f", recipe("p fill s a 2 9 good saved"), "s=b"), "p", 0)
		moves := batchAt(batchOf("m", recipe("p move x y 2 9 good saved"), "x=a y=b"), "p", 0)
		checkWants(t, c.want, impl.MaltWorld{Ctl: begun(written(lines...)), House: houseOf("a b", fills)}, "f", toMove(c.want, 2))
		checkWants(t, c.want, impl.MaltWorld{Ctl: begun(written(lines...)), House: houseOf("a b", moves)}, "m", toMove(c.want, 2))
	}
}

func TestWhoWantsSomething(t *testing.T) {
	some := someMalts()
	checkWants(t, "fills", some["one fills"], "b", toMove("malt a j b tun", 12))
	checkWants(t, "fills, and has asked", some["one has asked"], "b", toMove("malt a j b tun", 12))
	checkWants(t, "moves", some["one moves"], "b", toMove("tun b j c keg", 12))
	checkWants(t, "cleans", some["one cleans"], "b", toClean("tun"))
	for _, what := range []string{"one waits", "one holds", "one has held", "one looks", "new", "no things"} {
		checkWantsNothing(t, what, some[what], "b")
	}
	for _, at := range []string{"fill", "rest", "look", "go", "wash"} {
		checkWantsNothing(t, "waits at "+at, brewed(houseOf("keg tun", brewer("b", at, -1))), "b")
	}
	for what, w := range some {
		checkWantsNothing(t, what, w, "", "x", "B", "bb", "tun", "fill", "s1", "zzzzzzzz", "no name at all")
	}
	// Each of several, wherever it is.
	w := some["two fill"]
	checkWants(t, "the first", w, "z", toMove("malt a j b tun", 12))
	checkWants(t, "the second", w, "b", toMove("malt a j c keg", 3))
	checkWants(t, "busy", busyMalt(), "b", toMove("tun a j b keg", 12))
	checkWants(t, "busy", busyMalt(), "c", toClean("vat"))
	checkWantsNothing(t, "busy", busyMalt(), "a")
}

// What is wanted is the recipe's alone: nothing hangs on how much there is, who is up, what was asked for and how long it takes.
func TestWhatIsWantedHangsOnNothingElse(t *testing.T) {
	from := brewed(houseOf("keg tun", brewer("b", "fill", 0)))
	for what, change := range map[string]func(w *impl.MaltWorld){
		"nothing is there":    func(w *impl.MaltWorld) { w.Ctl = begun(brewery()) },
		"the master fell":     func(w *impl.MaltWorld) { w.Ctl = fallen(w.Ctl, 0) },
		"all fell":            func(w *impl.MaltWorld) { w.Ctl = fallen(w.Ctl, 0, 1, 2, 3) },
		"it has asked":        func(w *impl.MaltWorld) { w.Jobs = jobsOf("b fill 1 malt 12") },
		"eight have asked":    func(w *impl.MaltWorld) { w.Jobs = eightJobs(8) },
		"the malt is used":    func(w *impl.MaltWorld) { w.Ctl = impl.CtlStep(w.Ctl, toMove("malt d k e tun", 1)) },
		"it is late":          func(w *impl.MaltWorld) { w.House.Batches[0].Since = 29 },
		"time is up":          func(w *impl.MaltWorld) { w.House.Now = impl.RunMaxTick },
		"no number is left":   func(w *impl.MaltWorld) { w.Ctl.Mind.Last = impl.ClaimMaxNumber },
		"something is spilt":  func(w *impl.MaltWorld) { w.Ctl.Spilt = true },
		"another name of all": func(w *impl.MaltWorld) { w.House.Batches[0].Start, w.House.Last = 7, 9 },
	} {
		checkWants(t, what, otherMalt(from, change), "b", toMove("malt a j b tun", 12))
	}
}

func TestNothingIsToldOfWorldsThatAreNotOk(t *testing.T) {
	for what, w := range spoiltMalts() {
		checkWantsNothing(t, what, w, "a", "b", "b0", "c")
		for _, place := range []string{"keg", "tun", "malt", "vat", "j"} {
			for number := range 8 {
				checkMeter(t, what, w, number, place, 0)
			}
		}
		if after := impl.MaltAct(w); !sameMalt(after, impl.MaltWorld{}) {
			t.Errorf("%s: MaltAct = %+v", what, after)
		}
	}
}

func TestMetersOfPlaces(t *testing.T) {
	w := busyMalt()
	for place, meters := range map[string]map[int]int{
		"keg": {3: 2}, "tun": {1: 1000}, "j": {1: 1000}, "vat": {6: 1}, "k": {6: 1},
		// A station is no place, nor is a valve, a stuff, a lot, a batch.
		"east": {}, "west": {}, "mid": {}, "turn": {}, "a": {}, "c": {}, "ale": {}, "l1": {}, "b": {}, "": {}, "KEG": {}, "ke": {}, "kegs": {},
	} {
		for _, number := range append(farNumbers(), 3, 4, 5, 6, 7, 999999, 1000000, 1000001) {
			checkMeter(t, "busy", w, number, place, meters[number])
		}
	}
	full := someMalts()["a full cellar"]
	checkMeter(t, "full", full, 1000000, "vat", 0)
	checkMeter(t, "full", full, 1000000, "tun", 1000)
	checkMeter(t, "full", full, 1, "keg", 1)
	checkMeter(t, "full", full, 1, "tun", 0)
	for what, w := range someMalts() {
		checkMeter(t, what, w, 77, "tun", 0)
		checkMeter(t, what, w, math.MinInt, "keg", 0)
	}
	// Who has fallen does not tell less.
	checkMeter(t, "fallen", changedLink(w, func(w *impl.CtlWorld) { *w = fallen(*w, 0, 1, 2, 3, 4) }), 3, "keg", 2)
}

// wantInOk and meterInOk read the chapter a second time, for worlds that are ok.
func wantInOk(w impl.MaltWorld, b impl.RunBatch) (impl.CtlEvent, bool) {
	p, thing := phaseOfBatch(b), map[string]string{}
	for _, one := range b.Slots {
		thing[one.Slot] = one.Thing
	}
	from, to := "", ""
	switch {
	case b.Since == -1 || p.Kind == 3 || p.Kind == 5:
		return impl.CtlEvent{}, false
	case p.Kind == 1:
		from, to = p.B, thing[p.A]
	case p.Kind == 2:
		from, to = thing[p.A], thing[p.B]
	case p.Kind == 4:
		return toClean(thing[p.A]), true
	}
	all := routesByDefinition(w.Ctl.Plant, from, to)
	if len(all) == 0 {
		return impl.CtlEvent{}, false
	}
	return impl.CtlEvent{Kind: 7, Route: all[0], Amount: p.N}, true
}

func meterInOk(w impl.MaltWorld, number int, place string) int {
	for _, x := range w.Ctl.Plant.Places {
		if x.Name == place {
			return meterByDefinition(w.Ctl, number, x.Station)
		}
	}
	return 0
}

func wantByReading(w impl.MaltWorld, batch string) (impl.CtlEvent, bool) {
	at := slices.IndexFunc(w.House.Batches, func(b impl.RunBatch) bool { return b.Name == batch })
	if at < 0 || !maltByDefinition(w) {
		return impl.CtlEvent{}, false
	}
	return wantInOk(w, w.House.Batches[at])
}

func meterByReading(w impl.MaltWorld, number int, place string) int {
	if !maltByDefinition(w) {
		return 0
	}
	return meterInOk(w, number, place)
}

// checkWantByReading asks for promise 58, too: what is wanted is by the recipe, of who goes on alone.
func checkWantByReading(t *testing.T, what string, w impl.MaltWorld, batch string) bool {
	t.Helper()
	want, ok := wantByReading(w, batch)
	e, is := impl.MaltWant(w, batch)
	if is != ok || !sameEvent(e, want) {
		t.Errorf("%s: MaltWant of %q = %+v, %v; want %+v, %v: %+v", what, batch, e, is, want, ok, w)
	}
	if is && !slices.Contains(impl.RunGoes(w.House), batch) {
		t.Errorf("%s: %s does not go on: %+v", what, batch, w)
	}
	return ok
}

func TestWhatIsWantedByReading(t *testing.T) {
	all := spoiltMalts()
	for what, w := range someMalts() {
		all[what] = w
	}
	for what, w := range all {
		for _, batch := range append(namesOfBatches(w.House.Share), "", "x") {
			checkWantByReading(t, what, w, batch)
		}
		for _, place := range append(namesOfPlaces(w.Ctl.Plant), "", "none", "west") {
			for number := range 10 {
				checkMeter(t, what, w, number, place, meterByReading(w, number, place))
			}
		}
	}
}

func TestWhatIsWantedInWorldsOfWhichOneThingIsChanged(t *testing.T) {
	counted := counts{}
	for what, from := range map[string]impl.MaltWorld{"tiny": tinyMalt(), "brewery": someMalts()["two fill"]} {
		eachWithOneChange(from, []string{"", "a", "b", "j", "p", "tun", "keg"}, func(w impl.MaltWorld) {
			for _, batch := range []string{"b", "n", "z"} {
				isOne := checkWantByReading(t, "one thing of "+what, w, batch)
				counted.note("something", isOne)
				counted.note("nothing", !isOne)
			}
			for _, place := range []string{"a", "b", "tun"} {
				meter := meterByReading(w, 2, place)
				checkMeter(t, "one thing of "+what, w, 2, place, meter)
				counted.note("a meter", meter > 0)
				counted.note("no meter", meter == 0)
			}
		})
	}
	checkCounted(t, counted, 300, "something", "nothing", "a meter", "no meter")
}

// drawnBrew draws a batch of a plant's vessels, which are as many as it has slots at least; what it fills from is one of them, more often than not.
func drawnBrew(dice *rand.Rand, name string, vessels []string) impl.RunBatch {
	slots := numbered("s", min(4, len(vessels)))
	ends, later := []string{"good", "saved", "scrapped"}, []string(nil)
	var r []impl.RecPhase
	for _, phase := range slices.Backward(numbered("p", 1+dice.Intn(5))) {
		to := func() string { return oneOf(dice, later, oneOf(dice, ends, "")) }
		two := dice.Perm(len(slots))
		kinds := []int{impl.RecFill, impl.RecFill, impl.RecMove, impl.RecMove, impl.RecHold, impl.RecClean, impl.RecClean, impl.RecTest}
		p := impl.RecPhase{Name: phase, Kind: oneOf(dice, kinds, 0), A: slots[two[0]], Within: 2 + dice.Intn(20), Then: to(), Else: to()}
		if dice.Intn(4) == 0 {
			p.Else = oneOf(dice, ends, "")
		}
		switch {
		case p.Kind == impl.RecMove && len(slots) > 1:
			p.B, p.N = slots[two[1]], 1+dice.Intn(5)
		case p.Kind == impl.RecMove, p.Kind == impl.RecFill:
			p.Kind, p.B, p.N = impl.RecFill, choose(dice.Intn(12) == 0, "none", vessels[dice.Intn(len(vessels))]), 1+dice.Intn(5)
		case p.Kind == impl.RecHold:
			p.N = 1 + dice.Intn(p.Within)
		}
		r, later = slices.Insert(r, 0, p), slices.Insert(later, 0, phase)
	}
	at := r[dice.Intn(len(r))]
	b := impl.RunBatch{Name: name, Recipe: r, At: at.Name, Since: choose(dice.Intn(4) == 0, -1, dice.Intn(at.Within)), Start: 1}
	mixed := dice.Perm(len(vessels))
	for i, slot := range slotsByDefinition(r, r[0].Name) {
		b.Slots = append(b.Slots, impl.RunSlot{Slot: slot, Thing: vessels[mixed[i]]})
	}
	return b
}

func vesselsOf(p impl.Plant) []string {
	var names []string
	for _, x := range p.Places {
		if x.Cap > 0 {
			names = append(names, x.Name)
		}
	}
	return names
}

// drawnMalt draws a world that is ok, as it may not come about: jobs are of batches that are there and that are not, at where they are or elsewhere, under numbers that the master has and has not.
func drawnMalt(dice *rand.Rand) impl.MaltWorld {
	w := impl.MaltWorld{Ctl: drawnWorldOf(dice, []impl.Plant{brewery(), yard(), pond(), documentsPlant()}[dice.Intn(4)])}
	if dice.Intn(3) == 0 {
		w.Ctl = drawnWorld(dice)
	}
	for len(vesselsOf(w.Ctl.Plant)) == 0 {
		w.Ctl = drawnWorld(dice)
	}
	vessels := vesselsOf(w.Ctl.Plant)
	w.House = drawnHouseOf(dice, dice.Intn(100001), vessels, drawnBrew)
	for _, name := range []string{"a", "b", "c", "d", "e", "f", "g", "h", "i"} {
		j := impl.MaltJob{Batch: name, At: "p" + string(rune('0'+dice.Intn(5))), Number: 1 + dice.Intn(4), Place: oneOf(dice, vessels, ""), Amount: 1 + dice.Intn(4)}
		at := slices.IndexFunc(w.House.Batches, func(b impl.RunBatch) bool { return b.Name == name })
		if at >= 0 && dice.Intn(4) > 0 {
			j.At = w.House.Batches[at].At
		}
		if len(w.Ctl.Mind.Jobs) > 0 && dice.Intn(4) == 0 {
			j.Number = oneOf(dice, w.Ctl.Mind.Jobs, impl.CtlJob{}).Number
		}
		if meter := meterInOk(w, j.Number, j.Place); meter > 0 && dice.Intn(3) > 0 {
			j.Amount = max(1, meter-dice.Intn(2))
		}
		if dice.Intn(choose(at >= 0, 2, 5)) == 0 && len(w.Jobs) < 8 {
			w.Jobs = append(w.Jobs, j)
		}
	}
	return w
}

func TestWhatIsWantedInDrawnWorlds(t *testing.T) {
	counted := besideEachOther(8, func(i int) counts {
		dice, counted := rand.New(rand.NewSource(int64(720+i))), counts{}
		for range 100 {
			w := drawnMalt(dice)
			checkMalt(t, "drawn", w, true)
			for _, b := range w.House.Batches {
				isOne := checkWantByReading(t, "drawn", w, b.Name)
				kind := phaseOfBatch(b).Kind
				counted.note("a way, of a fill", isOne && kind == impl.RecFill)
				counted.note("a way, of a move", isOne && kind == impl.RecMove)
				counted.note("a cleaning", isOne && kind == impl.RecClean)
				counted.note("waits", b.Since == -1)
				counted.note("no way", !isOne && b.Since >= 0 && kind <= impl.RecMove)
				counted.note("another kind", b.Since >= 0 && (kind == impl.RecHold || kind == impl.RecTest))
			}
			for _, place := range append(namesOfPlaces(w.Ctl.Plant), "none") {
				for number := range 5 {
					meter := meterByReading(w, number, place)
					checkMeter(t, "drawn", w, number, place, meter)
					counted.note("a meter", meter > 0)
				}
			}
		}
		return counted
	})
	checkCounted(t, counted, 50, "a way, of a fill", "a way, of a move", "a cleaning", "waits", "no way", "another kind", "a meter")
}

func TestWantsOfWorldsAreNewMemory(t *testing.T) {
	for what, from := range someMalts() {
		w := withRoom(from)
		was := withWhatIsBehind(w)
		for _, b := range from.House.Batches {
			name := strings.Clone(b.Name)
			e, _ := impl.MaltWant(w, name)
			checkOwnMemory(t, what, e, w, name)
			checkOwnLists(t, what, e, w)
			want := copied(e)
			spoilTexts(e.Places)
			spoilTexts(e.Route.Places)
			spoilTexts(e.Route.Valves)
			again, _ := impl.MaltWant(w, name)
			if !sameEvent(again, want) {
				t.Errorf("%s: MaltWant of %s became %+v; it was %+v", what, name, again, want)
			}
		}
		impl.MaltMeter(w, 3, "keg")
		if !reflect.DeepEqual(withWhatIsBehind(w), was) {
			t.Errorf("%s: the world became %+v", what, withWhatIsBehind(w))
		}
	}
}

// What one call was given must not be seen in the next one, nor in one beside it.
func TestWantsOfWorldsKeepNothing(t *testing.T) {
	all := spoiltMalts()
	for what, w := range someMalts() {
		all[what] = w
	}
	var callers sync.WaitGroup
	for range 4 {
		callers.Go(func() {
			for what, w := range all {
				for _, batch := range append(namesOfBatches(w.House.Share), "x") {
					checkWantByReading(t, what, w, batch)
				}
				checkMeter(t, what, w, 3, "keg", meterByReading(w, 3, "keg"))
			}
		})
	}
	callers.Wait()
}
