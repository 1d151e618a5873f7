package tests

import (
	"slices"
	"testing"

	"loop.example/malthouse/impl"
)

func linkedStep(e impl.CtlEvent) impl.MaltEvent {
	return impl.MaltEvent{Kind: impl.MaltCtls, Ctl: e}
}

// fullEvent is of a kind, and has all that an event of any kind may have.
func fullEvent(kind int) impl.MaltEvent {
	start := brewer("n", "fill", -1)
	return impl.MaltEvent{Kind: kind, Ctl: toClean("jar"), Name: "b", Recipe: start.Recipe, Slots: start.Slots, Well: true}
}

func TestKindsOfMaltEvents(t *testing.T) {
	if impl.MaltCtls != 1 || impl.MaltStarts != 2 || impl.MaltTicks != 3 || impl.MaltTests != 4 {
		t.Error("the kinds are not the document's")
	}
	looks := brewed(houseOf("keg tun", brewer("b", "look", 4)), jobsOf("b look 1 tun 1")...)
	for _, kind := range append(farNumbers(), 5, 6, 7, 8) {
		if kind < impl.MaltCtls || kind > impl.MaltTests {
			checkMaltStep(t, "another kind", looks, fullEvent(kind), looks)
		}
	}
	checkMaltStep(t, "in the link", looks, fullEvent(impl.MaltCtls), otherMalt(looks, func(w *impl.MaltWorld) { linked(w, toClean("jar")) }))
	checkMaltStep(t, "b is there already", looks, fullEvent(impl.MaltStarts), looks)
	checkMaltStep(t, "looked at", looks, fullEvent(impl.MaltTests), otherMalt(looks, saidInHouse(t, "b+")))
	start := fullEvent(impl.MaltStarts)
	start.Name = "n"
	checkMaltStep(t, "begun", brewed(houseOf("keg tun")), start, changedHouse(brewed(houseOf("keg tun")), func(h *impl.RunHouse) {
		*h, _ = impl.RunStart(*h, "n", start.Recipe, start.Slots)
	}))
	for kind := range 7 {
		checkMaltStep(t, "a world that is not ok", spoiltMalts()["backwards"], fullEvent(kind), impl.MaltWorld{})
	}
}

// However late it is, what is due is asked for and heard of.
func TestTicksOfAWholeWorld(t *testing.T) {
	for what, w := range map[string]impl.MaltWorld{"early": brewed(houseOf("keg tun", brewer("b", "fill", 0))), "heard": movedMalt(houseOf("keg tun", brewer("b", "fill", 7)), 12, "b fill 1 malt 12")} {
		ticked := changedHouse(w, func(h *impl.RunHouse) { *h, _ = impl.RunTick(*h) })
		checkMaltStep(t, what, w, impl.MaltEvent{Kind: impl.MaltTicks}, impl.MaltAct(ticked))
		late := changedHouse(w, func(h *impl.RunHouse) { h.Now = impl.RunMaxTick })
		if _, code := impl.RunTick(late.House); code == 0 {
			t.Error("there is another tick")
		}
		checkMaltStep(t, what+", but late", late, impl.MaltEvent{Kind: impl.MaltTicks}, impl.MaltAct(late))
		if sameMalt(impl.MaltAct(late), late) {
			t.Errorf("%s: nothing is due", what)
		}
	}
}

func TestTestsOfBatches(t *testing.T) {
	for _, at := range []string{"fill", "rest", "go", "wash"} {
		w := brewed(houseOf("keg tun", brewer("b", at, 4)))
		checkMaltStep(t, "at "+at, w, fullEvent(impl.MaltTests), w)
	}
	looks, waits := brewed(houseOf("keg tun", brewer("b", "look", 4))), brewed(houseOf("keg tun", brewer("b", "look", -1)))
	for _, name := range []string{"", "a", "look", "tun", "bb"} {
		checkMaltStep(t, "another one", looks, impl.MaltEvent{Kind: impl.MaltTests, Name: name, Well: true}, looks)
	}
	checkMaltStep(t, "badly", looks, impl.MaltEvent{Kind: impl.MaltTests, Name: "b"}, otherMalt(looks, saidInHouse(t, "b-")))
	checkMaltStep(t, "it waits", waits, fullEvent(impl.MaltTests), waits)
}

// A master that falls knows of what is on its disk alone.
func TestFallsOfTheMaster(t *testing.T) {
	fall := linkedStep(happens(impl.CtlFalls, 0, 0))
	unwritten := brewed(houseOf("keg tun"), jobsOf("b fill 1 malt 12", "c go 2 keg 3", "d go 3 keg 3")...)
	linked(&unwritten, toMove("malt a j b tun", 12), toClean("keg"))
	written := otherMalt(unwritten, func(w *impl.MaltWorld) { linked(w, happens(impl.CtlWrites, 0, 0)) })
	isDown := changedLink(unwritten, func(w *impl.CtlWorld) { *w = fallen(*w, 0) })
	for what, c := range map[string]struct {
		from impl.MaltWorld
		e    impl.MaltEvent
		jobs []impl.MaltJob
	}{
		"nothing is on the disk":              {unwritten, fall, nil},
		"two are on the disk":                 {written, fall, jobsOf("b fill 1 malt 12", "c go 2 keg 3")},
		"another computer":                    {unwritten, linkedStep(happens(impl.CtlFalls, 1, 0)), unwritten.Jobs},
		"another event":                       {unwritten, linkedStep(happens(impl.CtlSays, 0, 0)), unwritten.Jobs},
		"it is down already":                  {isDown, fall, unwritten.Jobs},
		"it is down, and rises":               {isDown, linkedStep(happens(impl.CtlRises, 0, 0)), unwritten.Jobs},
		"it is down, and something is tested": {isDown, impl.MaltEvent{Kind: impl.MaltTests, Name: "b"}, unwritten.Jobs},
	} {
		after := impl.MaltStep(c.from, c.e)
		if !slices.Equal(after.Jobs, c.jobs) {
			t.Errorf("%s: jobs are %v; want %v", what, after.Jobs, c.jobs)
		}
		if c.e.Kind == impl.MaltCtls && !sameWorld(after.Ctl, impl.CtlStep(c.from.Ctl, c.e.Ctl)) {
			t.Errorf("%s: the link is %+v", what, after.Ctl)
		}
	}
}
