package tests

import (
	"fmt"
	"math/rand"
	"slices"
	"sync"
	"testing"

	"loop.example/malthouse/impl"
)

// yard has three stations, none of which has all that a route needs, and routes that cross each other.
func yard() impl.Plant {
	return written("stuff ale", "stuff lye", "stuff malt", "foe ale lye", "vessel a 6 e", "vessel b 6 w", "vessel c 6 w", "vessel d 4 n", "joint j e", "joint k w",
		"valve p a j e", "valve q b j w", "valve r j k n", "valve s c k w", "valve t d k n", "valve u a b w", "valve v c d e")
}

// pond has two stations alone, so that few words are needed for what is done there.
func pond() impl.Plant {
	return written("stuff ale", "stuff lye", "foe ale lye", "vessel a 5 e", "vessel b 5 w", "vessel c 5 w", "joint j e", "valve p a j e", "valve q b j w", "valve r c j w", "valve u b c e")
}

// counts is how often something has happened, by what it is called.
type counts map[string]int

func (c counts) note(what string, happened bool) {
	c[what] += choose(happened, 1, 0)
}

// besideEachOther does something so many times, and puts what was counted together.
func besideEachOther(many int, do func(i int) counts) counts {
	all := make([]counts, many)
	var doing sync.WaitGroup
	for i := range all {
		doing.Go(func() { all[i] = do(i) })
	}
	doing.Wait()
	sum := counts{}
	for _, c := range all {
		for what, often := range c {
			sum[what] += often
		}
	}
	return sum
}

func checkCounted(t *testing.T, counted counts, least int, whats ...string) {
	t.Helper()
	for _, what := range whats {
		if counted[what] < least {
			t.Errorf("%s: %d times; want %d at least: %v", what, counted[what], least, counted)
		}
	}
}

// vesselsJoined is how many vessels each group of open valves has.
func vesselsJoined(w impl.CtlWorld) []int {
	var all []int
	for _, group := range impl.PlantGroups(w.Plant, impl.CtlOpen(w)) {
		many := 0
		for _, x := range w.Plant.Places {
			many += choose(x.Cap > 0 && slices.Contains(group.Places, x.Name), 1, 0)
		}
		all = append(all, many)
	}
	return all
}

func TestVesselsThatAreJoined(t *testing.T) {
	for opens, want := range map[string][]int{"": {0, 0, 0, 1, 1, 1, 1}, "a b": {2, 0, 0, 1, 1}, "a b c": {3, 0, 0, 1}, "a b c d f g": {4}, "f": {0, 0, 1, 1, 1, 1}} {
		if got := vesselsJoined(star(opens)); !slices.Equal(got, want) {
			t.Errorf("%q: %v; want %v", opens, got, want)
		}
	}
}

// overfull is the vessels that hold more than they can.
func overfull(w impl.CtlWorld) []string {
	var names []string
	for _, v := range w.Stuff.Vessels {
		held := 0
		for _, p := range v.Parts {
			held += p.Amount
		}
		if held > v.Cap {
			names = append(names, v.Name)
		}
	}
	return names
}

// brokenPromises is what does not hold of a world of what promises 22 to 25 say, by the program and by reading.
func brokenPromises(w impl.CtlWorld) []string {
	var broken []string
	ask := func(what string, holds bool) {
		if !holds {
			broken = append(broken, what)
		}
	}
	read := told4ByDefinition(w)
	ask("22, never met", impl.CtlNever(w))
	ask("22, by reading", read.Never)
	ask("22, nothing was spilt", !w.Spilt)
	ask("23, between", impl.CtlBetween(w))
	ask("23, by reading", read.Between)
	ask("23, no more than it can hold", len(overfull(w)) == 0)
	ask("24, locked", impl.CtlLocked(w))
	ask("24, by reading", read.Locked)
	ask("25, two vessels at most", !slices.ContainsFunc(vesselsJoined(w), func(many int) bool { return many > 2 }))
	return broken
}

func checkPromised(t *testing.T, what string, w impl.CtlWorld) bool {
	t.Helper()
	broken := brokenPromises(w)
	if len(broken) > 0 {
		t.Errorf("%s: %q do not hold: %+v", what, broken, w)
	}
	return len(broken) == 0
}

// withSomethingToSay is the computers that have something to say.
func withSomethingToSay(w impl.CtlWorld) []int {
	var all []int
	if len(w.Out) > 0 {
		all = append(all, 0)
	}
	for i, s := range w.Stations {
		if len(s.Out) > 0 {
			all = append(all, i+1)
		}
	}
	return all
}

func down(w impl.CtlWorld) []int {
	var all []int
	if !w.Up {
		all = append(all, 0)
	}
	for i, s := range w.Stations {
		if !s.Up {
			all = append(all, i+1)
		}
	}
	return all
}

func wordsInAll(w impl.CtlWorld) int {
	many := len(w.Radio) + len(w.Out)
	for _, s := range w.Stations {
		many += len(s.Out)
	}
	return many
}

// oneOf draws one of a list, or the other one, if there is none.
func oneOf[T any](dice *rand.Rand, list []T, other T) T {
	if len(list) == 0 {
		return other
	}
	return list[dice.Intn(len(list))]
}

// atWork is what stations that were told to do something can do next: pump somewhere, or clean.
func atWork(w impl.CtlWorld) []impl.CtlEvent {
	var all []impl.CtlEvent
	for i, s := range w.Stations {
		for _, p := range s.Mind.Parts {
			number := p.Want.Number
			meter := meterByDefinition(w, number, stationsByDefinition(w.Plant)[i])
			if !slices.Contains(s.On, number) {
				continue
			}
			for _, u := range p.Want.Uses {
				if u.Role == impl.ClaimFrom && meter < u.Amount {
					all = append(all, flows(number, ""))
				}
			}
			if p.Want.Kind == impl.ClaimClean && meter == 0 {
				all = append(all, happens(impl.CtlCleans, i+1, number))
			}
		}
	}
	return all
}

// rowKind draws the kind of what happens next in a row: mostly what goes on with what has begun.
func rowKind(dice *rand.Rand, w impl.CtlWorld) int {
	kinds := []int{impl.CtlDoubles, impl.CtlLoses, impl.CtlFalls, impl.CtlHalts, impl.CtlWrites, impl.CtlFlows, impl.CtlCleans}
	often := func(times, kind int) { kinds = append(kinds, slices.Repeat([]int{kind}, times)...) }
	often(choose(len(w.Radio) > 0, 24, 0), impl.CtlBrings)
	often(choose(len(withSomethingToSay(w)) > 0, 14, 0), impl.CtlWrites)
	// What is said again and again would fill the radio, and be lost.
	often(choose(wordsInAll(w) < 2, 14, choose(wordsInAll(w) < 6, 2, 0)), impl.CtlSays)
	// The more there are at a time, the more of them are denied.
	often(max(1, 6-3*len(w.Mind.Jobs)), impl.CtlMoves)
	often(max(1, 4-2*len(w.Mind.Jobs)), impl.CtlPlaces)
	for _, e := range atWork(w) {
		often(6, e.Kind)
	}
	often(choose(len(w.Inside) > 0, 1, 0), impl.CtlSigns)
	often(4*len(down(w)), impl.CtlRises)
	return kinds[dice.Intn(len(kinds))]
}

// rowEvent draws what happens next in a row; now and then anything, whether it can happen or not.
func rowEvent(dice *rand.Rand, w impl.CtlWorld, all []impl.PlantRoute) impl.CtlEvent {
	if dice.Intn(40) == 0 {
		return drawnEvent(dice, w)
	}
	e := impl.CtlEvent{Kind: rowKind(dice, w), Amount: 1 + dice.Intn(4)}
	switch e.Kind {
	case impl.CtlBrings, impl.CtlDoubles, impl.CtlLoses:
		e.A = dice.Intn(max(1, len(w.Radio)))
	case impl.CtlWrites:
		e.A = oneOf(dice, withSomethingToSay(w), dice.Intn(len(w.Stations)+1))
	case impl.CtlFalls:
		e.A = dice.Intn(len(w.Stations) + 1)
	case impl.CtlRises:
		e.A = oneOf(dice, down(w), 0)
	case impl.CtlMoves, impl.CtlPlaces:
		return drawnBeginning(dice, w, e.Kind, all)
	case impl.CtlHalts:
		e.Number = oneOf(dice, w.Mind.Jobs, impl.CtlJob{Number: 1}).Number
	case impl.CtlSigns:
		e.Number = oneOf(dice, w.Inside, 1)
	case impl.CtlFlows, impl.CtlCleans:
		can := slices.DeleteFunc(atWork(w), func(other impl.CtlEvent) bool { return other.Kind != e.Kind })
		drawnFlow(dice, w, &e)
		if to := e.To; len(can) > 0 && dice.Intn(4) > 0 {
			e = can[dice.Intn(len(can))]
			e.To = to
		}
	}
	return e
}

// drawnBeginning draws what the master begins, a few times, until it could be granted as things are.
func drawnBeginning(dice *rand.Rand, w impl.CtlWorld, kind int, all []impl.PlantRoute) impl.CtlEvent {
	var e impl.CtlEvent
	for range 1 + dice.Intn(6) {
		e = impl.CtlEvent{Kind: kind, Amount: 1 + dice.Intn(4), Number: oneOf(dice, []int{impl.ClaimClean, impl.ClaimClean, impl.ClaimPermit}, 0)}
		if kind == impl.CtlMoves {
			e.Route = oneOf(dice, fromWhatIsFull(w, all), oneOf(dice, all, impl.PlantRoute{}))
		} else {
			e.Places = drawnPlaces(dice, w)
		}
		if couldBeGranted(w, e) {
			break
		}
	}
	return e
}

func couldBeGranted(w impl.CtlWorld, e impl.CtlEvent) bool {
	after := impl.CtlStep(w, e)
	if after.Mind.Last == w.Mind.Last {
		return false
	}
	for _, a := range impl.CtlJobAsks(w.Plant, after.Mind.Jobs[len(after.Mind.Jobs)-1]) {
		if s := atStation(&w, a.Station); impl.ClaimCode(s.Mind, a.Want) != 0 {
			return false
		}
	}
	return true
}

// filled is the vessels in which something is.
func filled(w impl.CtlWorld) []string {
	var names []string
	for _, v := range w.Stuff.Vessels {
		if len(v.Parts) > 0 {
			names = append(names, v.Name)
		}
	}
	return names
}

// fromWhatIsFull is the routes along which something could be moved.
func fromWhatIsFull(w impl.CtlWorld, all []impl.PlantRoute) []impl.PlantRoute {
	names := filled(w)
	return slices.DeleteFunc(slices.Clone(all), func(r impl.PlantRoute) bool { return !slices.Contains(names, r.Places[0]) })
}

// drawnPlaces draws some places, more often than not ones in which nothing is.
func drawnPlaces(dice *rand.Rand, w impl.CtlWorld) []string {
	var some []string
	names := filled(w)
	for _, place := range namesOfPlaces(w.Plant) {
		if dice.Intn(choose(slices.Contains(names, place), 16, 4)) == 0 && len(some) < 3 {
			some = append(some, place)
		}
	}
	if len(some) == 0 {
		return namesOfPlaces(w.Plant)[:1]
	}
	return some
}

// noteStation counts what has become of a station.
func (c counts) noteStation(before, after impl.CtlStation) {
	c.note("granted", after.Up && len(after.Mind.Parts) > len(before.Mind.Parts) && before.Up)
	c.note("over", after.Up && len(after.Mind.Parts) < len(before.Mind.Parts))
	c.note("told to go", len(after.On) > len(before.On))
	if before.Up && !after.Up {
		c.note("a station fell", true)
		c.note("a station fell between a hearing and a writing", !sameClaims(before.Mind, before.Disk))
		c.note("a station fell while a valve was open", len(before.On) > 0)
	}
	c.note("a station rose", after.Up && !before.Up)
	if many := len(after.Out); many > len(before.Out) {
		c.note("denied", after.Out[many-1].Kind == impl.CtlDenies)
		c.note("stopped", after.Out[many-1].Kind == impl.CtlStopped)
	}
}

// noteMaster counts what has become of the master.
func (c counts) noteMaster(before, after impl.CtlWorld) {
	if before.Up && !after.Up {
		c.note("the master fell", true)
		c.note("the master fell between a hearing and a writing", !sameMaster(before.Mind, before.Disk))
	}
	c.note("the master rose", after.Up && !before.Up)
	if !before.Up || !after.Up {
		return
	}
	c.note("ended", len(after.Mind.Jobs) < len(before.Mind.Jobs))
	for _, j := range after.Mind.Jobs {
		at := slices.IndexFunc(before.Mind.Jobs, func(k impl.CtlJob) bool { return k.Number == j.Number })
		if at < 0 {
			c.note("began "+[]string{"", "a move", "a cleaning", "a permit"}[j.Kind], true)
		} else if was := before.Mind.Jobs[at]; was.State != j.State {
			c.note("ran", j.State == impl.CtlRunning)
			c.note("halted", j.State == impl.CtlHalting)
			c.note("was cleaned", j.Done)
			c.note("was moved", j.State == impl.CtlEnding && j.Kind == impl.ClaimMove && j.Moved > 0)
		}
	}
}

// noteEvent counts what an event has changed.
func (c counts) noteEvent(before, after impl.CtlWorld, e impl.CtlEvent) {
	for i := range before.Stations {
		c.noteStation(before.Stations[i], after.Stations[i])
	}
	c.noteMaster(before, after)
	c.note("flowed", e.Kind == impl.CtlFlows && !slices.Equal(before.Meters, after.Meters))
	c.note("cleaned", e.Kind == impl.CtlCleans && !slices.Equal(before.Meters, after.Meters))
	c.note("went in", len(after.Inside) > len(before.Inside))
	c.note("signed off", len(after.Tags) > len(before.Tags))
	c.note("doubled", e.Kind == impl.CtlDoubles && len(after.Radio) > len(before.Radio))
	c.note("lost", e.Kind == impl.CtlLoses && len(after.Radio) < len(before.Radio))
	c.note("brought in another order", e.Kind == impl.CtlBrings && e.A > 0 && len(before.Radio) > 0)
	c.note("worked while a valve was open", len(after.Inside) > 0 && len(impl.CtlOpen(after)) > 0)
	if e.Kind == impl.CtlBrings {
		joined := slices.DeleteFunc(vesselsJoined(after), func(many int) bool { return many < 2 })
		c.note("joined two vessels", len(joined) == 1)
		c.note("joined two vessels, and two others", len(joined) == 2)
	}
}

// allOfRows is all that has to happen in rows of events.
func allOfRows() []string {
	return []string{
		"began a move", "began a cleaning", "began a permit", "granted", "denied", "told to go", "ran", "halted", "stopped", "over", "ended", "was cleaned", "was moved",
		"flowed", "cleaned", "went in", "signed off", "doubled", "lost", "brought in another order", "worked while a valve was open", "joined two vessels", "joined two vessels, and two others",
		"the master fell", "the master fell between a hearing and a writing", "the master rose",
		"a station fell", "a station fell between a hearing and a writing", "a station fell while a valve was open", "a station rose",
	}
}

// twoMoves is a world that events have led to: two moves go at a time.
func twoMoves() impl.CtlWorld {
	w := begun(yard(), fill("l1", "ale", "a", 5), fill("y1", "lye", "c", 2), fill("m1", "malt", "d", 3))
	w = impl.CtlStep(w, impl.CtlEvent{Kind: impl.CtlMoves, Route: route("a p j q b"), Amount: 4})
	w = impl.CtlStep(w, impl.CtlEvent{Kind: impl.CtlMoves, Route: route("d t k s c"), Amount: 2})
	return impl.CtlCalm(w, 4)
}

// rowBeginning is a world in which nothing has happened, of a plant that is drawn, or of one in which much can happen; or one in which much goes on.
func rowBeginning(dice *rand.Rand) impl.CtlWorld {
	switch dice.Intn(6) {
	case 0:
		return begunAtRandom(dice)
	case 1:
		return begun(cellar(), fill("l1", "ale", "keg", 12), fill("m1", "malt", "tun", 3), fill("y1", "lye", "vat", 2))
	case 2:
		return begun(yard(), fill("l1", "ale", "a", 5), fill("y1", "lye", "c", 2), fill("m1", "malt", "d", 3))
	case 3:
		return twoMoves()
	}
	return begun(pond(), fill("l1", "ale", "a", 4), fill("y1", "lye", "c", 2))
}

// eachOfRow tells the worlds of a row, each with the event that led to it, as long as it is to go on.
func eachOfRow(dice *rand.Rand, events int, tell func(i int, before, after impl.CtlWorld, e impl.CtlEvent) bool) {
	w := rowBeginning(dice)
	all := allRoutes(w.Plant)
	for i := range events {
		e := rowEvent(dice, w, all)
		after := impl.CtlStep(w, e)
		if !tell(i, w, after, e) {
			return
		}
		w = after
	}
}

// Promises 22 to 25.
func TestWhatIsPromisedBehindEachEventOfRows(t *testing.T) {
	counted := besideEachOther(48, func(row int) counts {
		c := counts{}
		eachOfRow(rand.New(rand.NewSource(int64(2200+row))), 400, func(i int, before, after impl.CtlWorld, e impl.CtlEvent) bool {
			if !checkPromised(t, fmt.Sprintf("row %d, event %d, %+v", row, i, e), after) {
				return false
			}
			c.noteEvent(before, after, e)
			return true
		})
		return c
	})
	checkCounted(t, counted, 15, allOfRows()...)
}

// isFull says whether, in a calm round, some list would have no room for one more, or a number is at its end.
func isFull(w impl.CtlWorld) bool {
	// All that is to be said is put on the radio at once.
	if wordsInAll(w) >= impl.CtlMaxRadio || len(w.Meters) >= impl.CtlMaxMeters || w.Disk.Last >= impl.ClaimMaxNumber || w.Mind.Last >= impl.ClaimMaxNumber {
		return true
	}
	return slices.ContainsFunc(w.Stations, func(s impl.CtlStation) bool { return s.Disk.Seen >= impl.ClaimMaxNumber })
}

// risen is a world in which all computers have risen.
func risen(w impl.CtlWorld) impl.CtlWorld {
	for _, at := range down(w) {
		w = impl.CtlStep(w, happens(impl.CtlRises, at, 0))
	}
	return w
}

// broughtToRest is what becomes of a world when so many times all who work sign off, all jobs are halted, and three calm rounds pass; false, if some list was full meanwhile.
func broughtToRest(w impl.CtlWorld, times int) (impl.CtlWorld, bool) {
	for range times {
		for _, number := range w.Inside {
			w = impl.CtlStep(w, happens(impl.CtlSigns, 0, number))
		}
		for _, j := range w.Mind.Jobs {
			w = impl.CtlStep(w, happens(impl.CtlHalts, 0, j.Number))
		}
		for rounds := range 3 {
			if isFull(impl.CtlCalm(w, rounds)) {
				return w, false
			}
		}
		w = impl.CtlCalm(w, 3)
	}
	return w, true
}

// restless is what a world has that one at rest has not.
func restless(w impl.CtlWorld) []string {
	var all []string
	if len(w.Mind.Jobs) > 0 || len(w.Disk.Jobs) > 0 {
		all = append(all, "a job")
	}
	for _, s := range w.Stations {
		if len(s.Disk.Parts) > 0 || len(s.Mind.Parts) > 0 {
			all = append(all, "something granted")
		}
		for _, spot := range s.Disk.Spots {
			if spot.Least != spot.Most {
				all = append(all, spot.Name+" between")
			}
		}
	}
	return all
}

// checkRests asks for promise 26, and says whether it was asked.
func checkRests(t *testing.T, what string, w impl.CtlWorld) bool {
	t.Helper()
	rested, hadRoom := broughtToRest(risen(w), 12)
	if !hadRoom {
		return false
	}
	if left := restless(rested); len(left) > 0 {
		t.Errorf("%s: %q are left: %+v; from %+v", what, left, rested, w)
	}
	checkPromised(t, what+", at rest", rested)
	if len(rested.Inside) > 0 || !impl.CtlQuiet(rested) {
		t.Errorf("%s: it is not quiet: %+v", what, rested)
	}
	return true
}

// Promise 26.
func TestRowsComeToRest(t *testing.T) {
	counted := besideEachOther(40, func(row int) counts {
		c := counts{}
		eachOfRow(rand.New(rand.NewSource(int64(2600+row))), 300, func(i int, _, w impl.CtlWorld, _ impl.CtlEvent) bool {
			if i%30 == 29 {
				c.note("rested", checkRests(t, fmt.Sprintf("row %d, event %d", row, i), w))
				c.note("of all", true)
				c.note("had been at work", len(restless(w)) > 0)
				c.note("had been open", len(impl.CtlOpen(w)) > 0)
				c.note("had been worked on", len(w.Inside) > 0)
				c.note("had been down", len(down(w)) > 0)
			}
			return !t.Failed() && impl.CtlWorldOk(w)
		})
		return c
	})
	checkCounted(t, counted, 15, "had been at work", "had been open", "had been worked on", "had been down")
	if counted["rested"] < counted["of all"]*9/10 {
		t.Errorf("%v", counted)
	}
}

// shortRowEvents is what may happen in the tiny plant's world, with each computer and each of the first two words.
func shortRowEvents() []impl.CtlEvent {
	all := []impl.CtlEvent{
		{Kind: impl.CtlMoves, Route: route("a u j v b"), Amount: 1}, {Kind: impl.CtlPlaces, Number: impl.ClaimPermit, Places: []string{"b"}}, {Kind: impl.CtlPlaces, Number: impl.ClaimClean, Places: []string{"j"}},
		happens(impl.CtlSays, 0, 0), happens(impl.CtlHalts, 0, 1), happens(impl.CtlSigns, 0, 1), happens(impl.CtlCleans, 2, 1), flows(1, "b"), flows(1, "a"),
	}
	for at := range 3 {
		all = append(all, happens(impl.CtlWrites, at, 0), happens(impl.CtlFalls, at, 0), happens(impl.CtlRises, at, 0))
	}
	for at := range 2 {
		all = append(all, happens(impl.CtlBrings, at, 0), happens(impl.CtlLoses, at, 0), happens(impl.CtlDoubles, at, 0))
	}
	return all
}

// Promises 22 to 26, of all that three events lead to from worlds in which something was begun, goes, or is halted.
func TestWhatIsPromisedBehindAllShortRows(t *testing.T) {
	seen := map[string]bool{}
	now := tinyBeginnings()
	for range 3 {
		var next []impl.CtlWorld
		for _, from := range now {
			for _, e := range shortRowEvents() {
				w := impl.CtlStep(from, e)
				if key := fmt.Sprintf("%+v", w); !seen[key] {
					seen[key] = true
					checkPromised(t, fmt.Sprintf("%+v", e), w)
					next = append(next, w)
				}
			}
		}
		now = next
	}
	for i, w := range now {
		if i%29 == 0 && !checkRests(t, "a short row", w) {
			t.Errorf("some list was full: %+v", w)
		}
	}
	if len(seen) < 2000 {
		t.Errorf("%d worlds were come to", len(seen))
	}
}

// workedOn is a world that events have led to: somebody works on k, and something is moved from the keg to the tun.
func workedOn() impl.CtlWorld {
	w := begun(cellar(), fill("l1", "ale", "keg", 12), fill("m1", "malt", "tun", 3))
	w = impl.CtlStep(w, impl.CtlEvent{Kind: impl.CtlPlaces, Number: impl.ClaimPermit, Places: []string{"k"}})
	w = impl.CtlCalm(w, 5)
	w = impl.CtlStep(w, impl.CtlEvent{Kind: impl.CtlMoves, Route: route("keg b j a tun"), Amount: 5})
	w = impl.CtlCalm(w, 4)
	for range 2 {
		w = impl.CtlStep(w, flows(2, "tun"))
	}
	return w
}

// brokenLocks is by what CtlLocked alone does not hold of what is worked on any more.
func brokenLocks() map[string]func(w *impl.CtlWorld) {
	otherwise := func(station string, change func(p *impl.ClaimWant)) func(w *impl.CtlWorld) {
		return func(w *impl.CtlWorld) { change(&atStation(w, station).Disk.Parts[0].Want) }
	}
	return map[string]func(w *impl.CtlWorld){
		"a permit that the master's disk has not": func(w *impl.CtlWorld) { w.Disk.Jobs = w.Disk.Jobs[1:] },
		"no permit at all":                        func(w *impl.CtlWorld) { w.Inside = []int{1, 3} },
		"a move":                                  func(w *impl.CtlWorld) { w.Inside = []int{1, 2} },
		"another permit on the master's disk":     func(w *impl.CtlWorld) { w.Disk.Jobs[0].Places = []string{"vat"} },
		"a part that mid's disk has not":          func(w *impl.CtlWorld) { atStation(w, "mid").Disk.Parts = nil },
		"a part that turn's disk has not":         func(w *impl.CtlWorld) { d := &atStation(w, "turn").Disk; d.Parts = d.Parts[1:] },
		"another place on mid's disk":             otherwise("mid", func(p *impl.ClaimWant) { p.Uses[0].Name = "vat" }),
		"another kind on mid's disk":              otherwise("mid", func(p *impl.ClaimWant) { p.Kind = impl.ClaimClean }),
		"a valve less on turn's disk":             otherwise("turn", func(p *impl.ClaimWant) { p.Shuts = p.Shuts[1:] }),
		"the last valve less on turn's disk":      otherwise("turn", func(p *impl.ClaimWant) { p.Shuts = p.Shuts[:1] }),
		"an open valve": func(w *impl.CtlWorld) {
			s := atStation(w, "turn")
			s.Mind.Parts, s.On = granted(moveOf(2, "ale", "", "d", "")), []int{2}
		},
		"another open valve": func(w *impl.CtlWorld) {
			s := atStation(w, "turn")
			s.Mind.Parts, s.On = granted(moveOf(2, "ale", "", "c", "")), []int{2}
		},
	}
}

// What is promised of a world that events have led to does not hold behind what no event does.
func TestWhatBreaksAWorldThatEventsHaveLedTo(t *testing.T) {
	all := told4{true, true, true, true}
	w := workedOn()
	checkTold4(t, "worked on", w, all)
	checkOpened(t, "worked on", w, "a", "b")
	if !slices.Equal(w.Inside, []int{1}) || len(w.Meters) != 1 {
		t.Fatalf("%+v", w)
	}
	behind := func(what string, want told4, change func(w *impl.CtlWorld)) {
		other := otherWorld(w, change)
		got := toldOf(other)
		got.Quiet, want.Quiet = false, false
		if got != want || !impl.CtlWorldOk(other) {
			t.Errorf("%s: %+v; want %+v: %+v", what, got, want, other)
		}
		other.Meters[0].Moved = 0
		checkTold4(t, what+", in a world that is not ok", other, told4{})
	}
	for what, change := range brokenLocks() {
		behind(what, told4{Never: true, Between: true}, change)
	}
	behind("spilt", told4{Between: true, Locked: true}, func(w *impl.CtlWorld) { w.Spilt = true })
	for i, l := range w.Wet {
		behind("foes in "+l.Place, told4{Locked: true}, func(w *impl.CtlWorld) { w.Wet[i].Stuffs = []string{"ale", "lye"} })
	}
	behind("lye where there may be none", told4{Never: true, Locked: true}, func(w *impl.CtlWorld) { w.Wet[1].Stuffs = []string{"lye"} })
	// By their disks there are 7 to 12 in the keg, 3 to 8 in the tun, and just nothing in the vat.
	for _, one := range []struct {
		vessel, held int
		isBetween    bool
	}{{0, 6, false}, {0, 7, true}, {0, 12, true}, {0, 13, false}, {1, 2, false}, {1, 3, true}, {1, 8, true}, {1, 9, false}, {2, 1, false}} {
		behind(fmt.Sprint(one), told4{Never: true, Between: one.isBetween, Locked: true}, func(w *impl.CtlWorld) {
			v := &w.Stuff.Vessels[one.vessel]
			v.Parts, v.May = []impl.StuffPart{{Lot: "m1", Amount: one.held}}, []string{"m1"}
		})
	}
}

// checkApart asks for promise 25 alone.
func checkApart(t *testing.T, what string, w impl.CtlWorld) bool {
	t.Helper()
	joined := vesselsJoined(w)
	isApart := impl.CtlWorldOk(w) && slices.Max(joined) <= 2
	if !isApart {
		t.Errorf("%s: 25, groups of %v vessels, %q being open: %+v", what, joined, impl.CtlOpen(w), w)
	}
	return isApart
}

// roundsUnheard lets rounds pass like calm ones, but for what is said to a station, or by it, under a number: that is lost.
func roundsUnheard(t *testing.T, what string, w impl.CtlWorld, station string, number, rounds int) (impl.CtlWorld, bool) {
	t.Helper()
	isApart := true
	happen := func(e impl.CtlEvent) {
		if isApart {
			w = impl.CtlStep(w, e)
			isApart = checkApart(t, what, w)
		}
	}
	for range rounds {
		for at := range len(w.Stations) + 1 {
			happen(happens(impl.CtlWrites, at, 0))
		}
		for range len(w.Radio) {
			isLost := isApart && w.Radio[0].Station == station && w.Radio[0].Number == number
			happen(happens(choose(isLost, impl.CtlLoses, impl.CtlBrings), 0, 0))
		}
		happen(happens(impl.CtlSays, 0, 0))
	}
	return w, isApart
}

// Promise 25: while a station keeps its valve open, as it does not hear that it is to stop, nothing else is joined with what lies behind it.
func TestVesselsStayApartWhileAStationDoesNotHear(t *testing.T) {
	stillOpen := map[string]string{"e": "p", "w": "q"}
	for station, valve := range stillOpen {
		w := begun(yard(), fill("l1", "ale", "a", 5), fill("m1", "malt", "c", 2), fill("m2", "malt", "d", 3))
		w = impl.CtlStep(w, impl.CtlEvent{Kind: impl.CtlMoves, Route: route("a p j q b"), Amount: 4})
		w = impl.CtlCalm(w, 4)
		checkOpened(t, "moving", w, "p", "q")
		w = impl.CtlStep(impl.CtlStep(w, flows(1, "b")), happens(impl.CtlHalts, 0, 1))
		w, _ = roundsUnheard(t, station+" does not hear", w, station, 1, 6)
		checkOpened(t, station+" does not hear", w, valve)
		beside, refused := 0, 0
		for _, r := range allRoutes(w.Plant) {
			what := fmt.Sprint(station, " does not hear, and then ", r)
			after, isApart := roundsUnheard(t, what, impl.CtlStep(w, impl.CtlEvent{Kind: impl.CtlMoves, Route: r, Amount: 1}), station, 1, 6)
			if isApart {
				beside += choose(len(impl.CtlOpen(after)) > 1, 1, 0)
				refused += choose(after.Mind.Last == 1, 1, 0)
			}
		}
		if beside == 0 || refused == 0 {
			t.Errorf("%s: %d went beside it, %d were refused", station, beside, refused)
		}
	}
}
