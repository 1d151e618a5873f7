package tests

import (
	"fmt"
	"math/rand"
	"reflect"
	"slices"
	"strings"
	"sync"
	"testing"

	"loop.example/malthouse/impl"
)

// phaseOfBatch is the phase that a batch is at, if its recipe has one of this name.
func phaseOfBatch(b impl.RunBatch) impl.RecPhase {
	for _, p := range b.Recipe {
		if p.Name == b.At {
			return p
		}
	}
	return impl.RecPhase{}
}

// beginningOf is the batch that begins by a call, in a house that is ok.
func beginningOf(d deed) impl.RunBatch {
	b := impl.RunBatch{Name: d.Name, Recipe: d.Recipe, Slots: d.Slots, Since: -1, Start: d.House.Last + 1}
	if len(d.Recipe) > 0 {
		b.At = d.Recipe[0].Name
	}
	return b
}

func entering(h impl.RunHouse, b impl.RunBatch) plea {
	return plea{h.Share, shareEnter, b.Name, thingsByDefinition(b, b.At)}
}

// startCodeByDefinition, sayCodeByDefinition and deedByDefinition read the chapter a second time, for houses that are ok.
func startCodeByDefinition(d deed) int {
	b := beginningOf(d)
	if !batchByDefinition(b) {
		return 2
	}
	_, code := answerByDefinition(entering(d.House, b))
	return choose(code == 0 && d.House.Last == 1000000, 4, code)
}

func sayCodeByDefinition(d deed) int {
	for _, b := range d.House.Batches {
		if b.Name != d.Name {
			continue
		}
		p := phaseOfBatch(b)
		isHeldTooShort := p.Kind == 3 && d.Well && b.Since < p.N
		return choose(b.Since == -1 || isHeldTooShort, 6, 0)
	}
	return 3
}

// allAskByDefinition lets all ask who wait; the house's memory is the caller's own.
func allAskByDefinition(h impl.RunHouse) impl.RunHouse {
	for i, b := range h.Batches {
		if b.Since != -1 {
			continue
		}
		share, code := answerByDefinition(plea{h.Share, shareAsk, b.Name, ownByDefinition(b)})
		h.Share, h.Batches[i].Since = share, choose(code == 0, 0, -1)
	}
	return h
}

// goesOnByDefinition lets one go on, who is found by the name.
func goesOnByDefinition(h impl.RunHouse, name, to string) impl.RunHouse {
	end, isEnd := map[string]int{"good": 1, "saved": 2, "scrapped": 3}[to]
	var stay []impl.RunBatch
	for _, b := range h.Batches {
		if b.Name == name && isEnd {
			h.Dones = append(slices.Clone(h.Dones), impl.RunDone{Name: name, End: end, Tick: h.Now})
			h.Dones = h.Dones[max(0, len(h.Dones)-20):]
			h.Share, _ = answerByDefinition(plea{h.Share, shareLeave, name, nil})
			continue
		}
		if b.Name == name {
			b.At, b.Since = to, -1
			h.Share, _ = answerByDefinition(plea{h.Share, shareLess, name, thingsByDefinition(b, to)})
		}
		stay = append(stay, b)
	}
	h.Batches = stay
	return h
}

// ticksByDefinition lets a tick pass, and tells who is late then, from the last to the first.
func ticksByDefinition(h impl.RunHouse) impl.RunHouse {
	h.Now++
	var late []impl.RunBatch
	for i := range h.Batches {
		if b := &h.Batches[i]; b.Since >= 0 {
			b.Since++
			if b.Since == phaseOfBatch(*b).Within {
				late = append([]impl.RunBatch{*b}, late...)
			}
		}
	}
	for _, b := range late {
		h = goesOnByDefinition(h, b.Name, phaseOfBatch(b).Else)
	}
	return h
}

func codeOfDeedByDefinition(d deed) int {
	switch {
	case !houseByDefinition(d.House):
		return 1
	case d.Call == runStart:
		return startCodeByDefinition(d)
	case d.Call == runSay:
		return sayCodeByDefinition(d)
	}
	return choose(d.House.Now == 100000, 7, 0)
}

func deedByDefinition(d deed) (impl.RunHouse, int) {
	code := codeOfDeedByDefinition(d)
	if code > 0 {
		return choose(code == 1, impl.RunHouse{}, d.House), code
	}
	h := copied(d.House)
	switch d.Call {
	case runStart:
		b := copied(beginningOf(d))
		h.Share, _ = answerByDefinition(entering(h, b))
		h.Batches, h.Last = append(h.Batches, b), b.Start
	case runSay:
		for _, b := range d.House.Batches {
			if p := phaseOfBatch(b); b.Name == d.Name {
				h = goesOnByDefinition(h, b.Name, choose(d.Well, p.Then, p.Else))
			}
		}
	case runTick:
		h = ticksByDefinition(h)
	}
	return allAskByDefinition(h), 0
}

func goesByDefinition(h impl.RunHouse) []string {
	var names []string
	if houseByDefinition(h) {
		for _, b := range h.Batches {
			if b.Since >= 0 {
				names = append(names, b.Name)
			}
		}
	}
	return names
}

// checkDeedByReading holds a call against the second reading of the chapter.
func checkDeedByReading(t *testing.T, what string, d deed) int {
	t.Helper()
	want, code := deedByDefinition(d)
	checkDeed(t, what, d, want, code)
	checkRunGoes(t, what, d.House, goesByDefinition(d.House)...)
	if code != 1 && !houseByDefinition(want) {
		t.Errorf("%s: the house is not ok behind it: %+v", what, want)
	}
	return code
}

// checkDeedCodes asks for each code of each call, and some more, to have been met so many times.
func checkDeedCodes(t *testing.T, met counts, least int, also ...int) {
	t.Helper()
	for call, codes := range map[runCall][]int{runStart: {0, 2, 3, 4}, runSay: {0, 3, 6}, runTick: {0}} {
		for _, code := range append(codes, also...) {
			checkCounted(t, met, least, call.with(code))
		}
	}
}

// deedsIn is calls in a house, right ones and wrong ones.
func deedsIn(h impl.RunHouse) []deed {
	all := []deed{tickOf(h), startOf(h, brewBatch()), startOf(h, tunFirst("m")), startOf(h, usesOne("b", "keg", 2)), startOf(h, usesTwo("z", "tun", "keg", 1)), startOf(h, impl.RunBatch{Name: "n"})}
	for _, name := range append(namesOfBatches(h.Share), "m", "") {
		all = append(all, sayOf(h, name, true), sayOf(h, name, false))
	}
	if len(h.Share.Things) > 0 {
		all = append(all, startOf(h, usesOne("n", h.Share.Things[0], 3)))
	}
	return all
}

func TestDeedsByReading(t *testing.T) {
	met := counts{}
	for what, h := range someHouses() {
		for _, d := range deedsIn(h) {
			met.note(d.Call.with(checkDeedByReading(t, what, d)), true)
		}
	}
	for _, h := range spoiltHouses() {
		for _, d := range deedsIn(h) {
			met.note(d.Call.with(checkDeedByReading(t, "spoilt", d)), true)
		}
	}
	checkDeedCodes(t, met, 1, 1)
	checkCounted(t, met, 1, runTick.with(7))
}

// changedDeeds is calls of which one thing is changed, some of them in a house in which two are late at the next tick.
func changedDeeds() map[string]deed {
	h := houseOf("jar keg tun", batchAt(usesTwo("a", "keg", "jar", 3), "p", 2), tunFirst("c"), batchAt(usesOne("b", "jar", 3), "p", 2))
	h.Dones = []impl.RunDone{{Name: "a", End: 3, Tick: 9}}
	held := houseOf("keg tun", batchAt(batchOf("a", recipe("p hold s . 2 4 q saved", "q clean s . 0 1 good good"), "s=keg"), "p", 2), kegFirst("b"))
	last := otherHouse(h, func(h *impl.RunHouse) { h.Now = impl.RunMaxTick - 1 })
	behind := otherHouse(held, func(h *impl.RunHouse) { h.Now, h.Last = impl.RunMaxTick, impl.RunMaxStarts })
	told := otherHouse(h, func(h *impl.RunHouse) { h.Now, h.Dones = impl.RunMaxTick, fullHouse().Dones })
	five := houseOf("keg tun", tunFirst("b"), tunFirst("c"), tunFirst("d"), tunFirst("e"), tunFirst("f"))
	return map[string]deed{
		"behind 20 ends": sayOf(told, "b", true), "behind the last tick": tickOf(behind), "behind the last start": startOf(behind, usesOne("m", "tun", 4)), "five are there": startOf(five, usesOne("m", "tun", 4)),
		"a tick": tickOf(h), "the last tick": tickOf(last), "well": sayOf(h, "a", true), "badly": sayOf(h, "b", false), "it waits": sayOf(h, "c", true),
		"held": sayOf(held, "a", true), "a start": startOf(h, usesTwo("m", "tun", "keg", 4)), "a start of who is there": startOf(held, tunFirst("b")),
	}
}

func TestDeedsOfWhichOneThingIsChanged(t *testing.T) {
	met := counts{}
	for what, from := range changedDeeds() {
		eachWithOneChange(from, textsOfAll(from), func(d deed) {
			met.note(d.Call.with(checkDeedByReading(t, what, d)), true)
		})
	}
	checkDeedCodes(t, met, 10, 1)
	checkCounted(t, met, 10, runTick.with(7))
}

func TestDeedsOfWhichTwoThingsAreChanged(t *testing.T) {
	met := counts{}
	h := houseOf("k t", batchAt(usesOne("a", "k", 2), "p", 1))
	h.Batches[0].Recipe = recipe("p hold s . 1 2 good q", "q clean s . 0 1 good good")
	for _, from := range []deed{startOf(h, usesOne("b", "t", 2)), sayOf(h, "a", true), tickOf(h)} {
		texts := []string{"", "a", "b", "k", "p", "q", "saved"}
		eachWithOneChange(from, texts, func(d deed) {
			eachWithOneChange(d, texts, func(d deed) {
				met.note(d.Call.with(checkDeedByReading(t, "two things", d)), true)
			})
		})
	}
	// No two changes make five of one batch.
	for _, what := range []string{"RunStart 0", "RunStart 1", "RunStart 2", "RunStart 3", "RunSay 0", "RunSay 1", "RunSay 3", "RunSay 6", "RunTick 0", "RunTick 1"} {
		checkCounted(t, met, 100, what)
	}
}

// drawnDeed draws a call that is right more often than not.
func drawnDeed(dice *rand.Rand, h impl.RunHouse) deed {
	names := []string{"a", "b", "c", "d", "e", "f", "g"}
	name := names[dice.Intn(len(names))]
	if len(h.Batches) > 0 && dice.Intn(6) > 0 {
		name = h.Batches[dice.Intn(len(h.Batches))].Name
	}
	switch dice.Intn(5) {
	case 0, 1:
		return tickOf(h)
	case 2, 3:
		return sayOf(h, name, dice.Intn(2) == 0)
	}
	b := drawnBatch(dice, names[dice.Intn(len(names))], append(slices.Clone(h.Share.Things), numbered("t", 8)[len(h.Share.Things):]...))
	if dice.Intn(12) == 0 {
		b.Slots = b.Slots[:len(b.Slots)-1]
	}
	if dice.Intn(12) == 0 {
		b.Name = []string{"", "A", "abcdefghi"}[dice.Intn(3)]
	}
	return startOf(h, b)
}

// Houses as they need not come about: some wait for what is free, and some have more than they need at once.
func TestDeedsInDrawnHouses(t *testing.T) {
	met := besideEachOther(8, func(i int) counts {
		dice, met := rand.New(rand.NewSource(int64(630+i))), counts{}
		for range 400 {
			h := drawnHouse(dice)
			if dice.Intn(20) == 0 {
				h.Last = impl.RunMaxStarts
			}
			if dice.Intn(3) == 0 {
				// All that go on are late at the next tick.
				for j := range h.Batches {
					if b := &h.Batches[j]; b.Since >= 0 {
						b.Since = phaseOfBatch(*b).Within - 1
					}
				}
			}
			for range 6 {
				d := drawnDeed(dice, h)
				met.note(d.Call.with(checkDeedByReading(t, "drawn", d)), true)
				after, code := d.answer()
				met.note("several end", len(after.Batches) < len(h.Batches)-1)
				met.note("somebody has waited", code == 0 && len(impl.RunGoes(after)) > len(impl.RunGoes(h)))
				met.note("somebody waits now", len(impl.RunGoes(after)) < len(after.Batches))
			}
		}
		return met
	})
	checkDeedCodes(t, met, 50)
	checkCounted(t, met, 50, "several end", "somebody has waited", "somebody waits now")
}

// deedsOfAllHouses tells calls in houses that are ok and that are not, right ones and wrong ones.
func deedsOfAllHouses(tell func(d deed)) {
	for _, d := range changedDeeds() {
		tell(d)
	}
	houses := spoiltHouses()
	for _, h := range someHouses() {
		houses = append(houses, h)
	}
	for _, h := range houses {
		for _, d := range deedsIn(h) {
			tell(d)
		}
	}
}

func TestDeedsLeaveTheirArguments(t *testing.T) {
	deedsOfAllHouses(func(asked deed) {
		d := withRoom(asked)
		was := withWhatIsBehind(d)
		first, code := d.answer()
		checkDeed(t, "a second time", d, first, code)
		checkDeed(t, "without room", asked, first, code)
		checkRunGoes(t, "with room", d.House, goesByDefinition(asked.House)...)
		impl.RunOpen(d.House.Share.Things)
		if !reflect.DeepEqual(withWhatIsBehind(d), was) {
			t.Errorf("what was asked became %+v", withWhatIsBehind(d))
		}
	})
}

// wholeHouse is a house with what stands behind the ends of its lists.
func wholeHouse(h impl.RunHouse) impl.RunHouse {
	h.Batches, h.Dones = h.Batches[:cap(h.Batches)], h.Dones[:cap(h.Dones)]
	h.Share.Batches = h.Share.Batches[:cap(h.Share.Batches)]
	return h
}

// spoilHouse writes into all lists of a house.
func spoilHouse(h impl.RunHouse) {
	h = wholeHouse(h)
	spoilTexts(h.Share.Things)
	for i := range h.Share.Batches {
		spoilTexts(h.Share.Batches[i].Has)
		spoilTexts(h.Share.Batches[i].Needs)
		h.Share.Batches[i].Name = "spoilt"
	}
	for i := range h.Batches {
		b := &h.Batches[i]
		for j := range b.Recipe[:cap(b.Recipe)] {
			b.Recipe[:cap(b.Recipe)][j] = impl.RecPhase{Name: "spoilt"}
		}
		for j := range b.Slots[:cap(b.Slots)] {
			b.Slots[:cap(b.Slots)][j] = impl.RunSlot{Slot: "spoilt"}
		}
		b.Name, b.Since = "spoilt", -7
	}
	for i := range h.Dones {
		h.Dones[i] = impl.RunDone{Name: "spoilt", End: -7}
	}
}

func TestHousesBehindDeedsAreNewMemory(t *testing.T) {
	deedsOfAllHouses(func(asked deed) {
		d := withRoom(asked)
		d.Name = strings.Clone(d.Name)
		first, code := d.answer()
		second, _ := d.answer()
		what := fmt.Sprintf("%+v, %d", d, code)
		checkOwnMemory(t, what, wholeHouse(first), d)
		checkOwnLists(t, what, wholeHouse(first), d)
		checkOwnMemory(t, what, wholeHouse(second), wholeHouse(first), d)
		checkOwnLists(t, what, wholeHouse(second), wholeHouse(first), d)
		next := d
		next.House = first
		third, _ := next.answer()
		checkOwnMemory(t, what, wholeHouse(third), wholeHouse(first), d)
		checkOwnLists(t, what, wholeHouse(third), wholeHouse(first), d)
		goes := impl.RunGoes(first)
		checkOwnMemory(t, what, goes, first)
		checkOwnLists(t, what, goes, first)
		spoilTexts(goes)
		spoilHouse(first)
		checkDeed(t, "behind an answer that was written into", d, second, code)
	})
}

func TestOpenedHousesAreNewMemory(t *testing.T) {
	for _, many := range []int{0, 1, 3, 8} {
		things := withRoom(numbered("t", many))
		was := slices.Clone(things[:cap(things)])
		h, _ := impl.RunOpen(things)
		again, _ := impl.RunOpen(things)
		checkOwnMemory(t, "RunOpen", h, things)
		checkOwnLists(t, "RunOpen", h, things)
		checkOwnMemory(t, "again", again, h, things)
		checkOwnLists(t, "again", again, h, things)
		spoilTexts(h.Share.Things)
		checkOpens(t, things, true)
		if !slices.Equal(things[:cap(things)], was) {
			t.Errorf("the things became %q", things[:cap(things)])
		}
	}
}

func TestDeedsOfVeryLongLists(t *testing.T) {
	long := 200000
	name := strings.Repeat("a", 1<<20)
	for what, h := range map[string]impl.RunHouse{"small": smallHouse(), "full": fullHouse(), "nothing": {}} {
		checkDeedRefused(t, what, sayOf(h, name, true), 3)
		for _, b := range []impl.RunBatch{
			{Name: name, Recipe: fillAndGo(), Slots: slotted("s1=tun s2=keg")}, {Name: "n", Recipe: slices.Repeat(fillAndGo(), long), Slots: slotted("s1=tun s2=keg")}, {Name: "n", Recipe: fillAndGo(), Slots: slices.Repeat(slotted("s1=tun s2=keg"), long)},
			{Name: "n", Recipe: make([]impl.RecPhase, long), Slots: make([]impl.RunSlot, long)}, {Name: "n", Recipe: fillAndGo(), Slots: slotted("s1=" + name + " s2=keg")}, {Name: "n", Recipe: recipe("p clean " + name + " . 0 1 good good"), Slots: slotted(name + "=tun")},
		} {
			checkDeedRefused(t, what, startOf(h, b), 2)
		}
	}
	var many []impl.RunBatch
	for i := range long {
		b := usesOne("a", "keg", 9)
		b.Start = i + 1
		many = append(many, b)
	}
	for _, change := range []func(h *impl.RunHouse){
		func(h *impl.RunHouse) { h.Batches = many }, func(h *impl.RunHouse) { h.Dones = slices.Repeat(h.Dones, long) }, func(h *impl.RunHouse) { h.Share.Things = slices.Repeat(h.Share.Things, long) },
		func(h *impl.RunHouse) { h.Share.Batches = make([]impl.ShareBatch, long) }, func(h *impl.RunHouse) { h.Batches[1].Recipe = slices.Repeat(h.Batches[1].Recipe, long) },
	} {
		h := otherHouse(smallHouse(), change)
		for _, d := range []deed{tickOf(h), sayOf(h, "b", true), startOf(h, usesOne("n", "keg", 9))} {
			if after, code := d.answer(); code != 1 || !sameHouse(after, impl.RunHouse{}) {
				t.Errorf("%v = %d", d.Call, code)
			}
		}
		checkRunGoes(t, "long", h)
	}
}

// What one call was given must not be seen in the next one, nor in one beside it.
func TestDeedsKeepNothing(t *testing.T) {
	var all []deed
	var houses []impl.RunHouse
	var codes []int
	deedsOfAllHouses(func(d deed) {
		want, code := deedByDefinition(d)
		all, houses, codes = append(all, d), append(houses, want), append(codes, code)
	})
	var callers sync.WaitGroup
	for caller := range 8 {
		callers.Go(func() {
			for i := range all {
				at := (i*7 + caller) % len(all)
				checkDeed(t, "beside others", all[at], houses[at], codes[at])
			}
		})
	}
	callers.Wait()
}

func TestOpenedHousesKeepNothing(t *testing.T) {
	var callers sync.WaitGroup
	for caller := range 8 {
		callers.Go(func() {
			for i := range 200 {
				many := (i + caller) % 10
				checkOpens(t, numbered("t", many), many <= 8)
			}
		})
	}
	callers.Wait()
}
