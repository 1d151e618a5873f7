package tests

import (
	"strconv"
	"strings"
	"testing"

	"loop.example/malthouse/impl"
)

// checkActs asks for what MaltAct makes of a world, told as what it changes.
func checkActs(t *testing.T, what string, w impl.MaltWorld, change func(w *impl.MaltWorld)) {
	t.Helper()
	checkMalt(t, what, w, true)
	want := otherMalt(w, change)
	after := impl.MaltAct(w)
	if !sameMalt(after, want) {
		t.Errorf("%s: MaltAct = %+v; want %+v", what, after, want)
	}
	checkMalt(t, what+", behind it", after, true)
	checkPromise58(t, what, w, after)
}

// checkPromise58 says that by MaltAct RunLeft never becomes more.
func checkPromise58(t *testing.T, what string, w, after impl.MaltWorld) {
	t.Helper()
	if ahead, behind := impl.RunLeft(w.House), impl.RunLeft(after.House); behind > ahead {
		t.Errorf("%s: of %d ticks %d are left: %+v", what, ahead, behind, w)
	}
}

func checkActsNot(t *testing.T, what string, w impl.MaltWorld) {
	t.Helper()
	checkActs(t, what, w, func(*impl.MaltWorld) {})
}

// saidInHouse lets phases go: "a+" went well, "b-" badly, one after the other.
func saidInHouse(t *testing.T, row string) func(w *impl.MaltWorld) {
	t.Helper()
	return func(w *impl.MaltWorld) { w.House = played(t, w.House, row) }
}

// linked lets events happen in the link, one after the other.
func linked(w *impl.MaltWorld, events ...impl.CtlEvent) {
	for _, e := range events {
		w.Ctl = impl.CtlStep(w.Ctl, e)
	}
}

func haltOf(number int) impl.CtlEvent {
	return happens(impl.CtlHalts, 0, number)
}

// moving is a brewery in which the master's first job is a move from the malt to the tun, of 12, which goes; so many have flowed.
func moving(h impl.RunHouse, flown int, jobs ...string) impl.MaltWorld {
	w := brewed(h, jobsOf(jobs...)...)
	linked(&w, toMove("malt a j b tun", 12))
	w.Ctl = impl.CtlCalm(w.Ctl, 4)
	for range flown {
		linked(&w, flows(1, "tun"))
	}
	return w
}

// movedMalt is a brewery in which the master's first job was a move as above, and is gone.
func movedMalt(h impl.RunHouse, flown int, jobs ...string) impl.MaltWorld {
	w := moving(h, flown, jobs...)
	linked(&w, haltOf(1))
	w.Ctl = impl.CtlCalm(w.Ctl, 9)
	return w
}

// withMeter has a meter of the west under a number of which nobody else knows.
func withMeter(w impl.MaltWorld, number, moved int) impl.MaltWorld {
	return changedLink(w, func(w *impl.CtlWorld) {
		w.Meters = []impl.CtlMeter{{Number: number, Station: "west", Moved: moved}}
	})
}

func TestWhatIsSetUpForActing(t *testing.T) {
	if w := moving(houseOf("keg tun"), 3); len(w.Ctl.Mind.Jobs) != 1 || w.Ctl.Mind.Jobs[0].State != impl.CtlRunning || impl.MaltMeter(w, 1, "malt") != 3 {
		t.Errorf("%+v", w.Ctl.Mind)
	}
	if w := movedMalt(houseOf("keg tun"), 3); len(w.Ctl.Mind.Jobs) > 0 || w.Ctl.Mind.Last != 1 || impl.MaltMeter(w, 1, "malt") != 3 {
		t.Errorf("%+v", w.Ctl.Mind)
	}
}

func TestNothingIsActed(t *testing.T) {
	for _, what := range []string{"nothing", "empty lists", "new", "no things", "all things", "one waits", "one holds", "one looks"} {
		checkActsNot(t, what, someMalts()[what])
	}
	checkActs(t, "no stuff at all", someMalts()["no stuff at all"], func(w *impl.MaltWorld) { w.Jobs = nil })
	if after := impl.MaltAct(changedHouse(someMalts()["new"], func(h *impl.RunHouse) { h.Now = -1 })); !sameMalt(after, impl.MaltWorld{}) {
		t.Errorf("%+v", after)
	}
}

// holds1 holds s for three ticks, and holds it again then.
func holds1() []impl.RecPhase {
	return recipe("h hold s . 3 9 i scrapped", "i hold s . 1 4 good saved")
}

func TestHeldStep(t *testing.T) {
	for since := range 9 {
		w := brewed(houseOf("keg tun", batchAt(batchOf("b", holds1(), "s=tun"), "h", since)))
		if since < 3 {
			checkActsNot(t, "held too short", w)
		} else {
			// It is at the next phase for no tick yet, which is too short again.
			checkActs(t, "held long enough", w, saidInHouse(t, "b+"))
		}
	}
	checkActsNot(t, "it waits", brewed(houseOf("keg tun", batchOf("b", holds1(), "s=tun"))))
	checkActs(t, "held for all its ticks but one", brewed(houseOf("tun", batchAt(batchOf("b", recipe("h hold s . 8 9 good saved"), "s=tun"), "h", 8))), saidInHouse(t, "b+"))
	checkActs(t, "held for one tick", brewed(houseOf("tun", batchAt(batchOf("b", holds1(), "s=tun"), "i", 1))), saidInHouse(t, "b+"))
	checkActsNot(t, "looked at for long", brewed(houseOf("tun", batchAt(batchOf("b", recipe("h test s . 0 9 good saved"), "s=tun"), "h", 8))))
}

func TestHeldStepOfSeveral(t *testing.T) {
	held := func(name, thing string, since int) impl.RunBatch {
		return batchAt(batchOf(name, holds1(), "s="+thing), "h", since)
	}
	last := func(name, thing string, since int) impl.RunBatch {
		return batchAt(batchOf(name, holds1(), "s="+thing), "i", since)
	}
	checkActs(t, "in their order", brewed(houseOf("jar keg tun", last("z", "tun", 2), held("m", "jar", 2), last("a", "keg", 1))), saidInHouse(t, "z+ a+"))
	checkActs(t, "all", brewed(houseOf("jar keg tun", held("z", "tun", 3), held("m", "jar", 5), held("a", "keg", 8))), saidInHouse(t, "z+ m+ a+"))
	// Who has waited for what one of them had is at its phase for no tick yet.
	waits := batchOf("w", holds1(), "s=tun")
	checkActs(t, "who waits for it", brewed(houseOf("keg tun", last("b", "tun", 3), waits)), saidInHouse(t, "b+"))
	checkActs(t, "who waits, and is ahead", brewed(houseOf("keg tun", waits, last("b", "tun", 3))), saidInHouse(t, "b+"))
	// The master need not be there for that.
	for _, fell := range [][]int{{0}, {0, 1, 2, 3}, {1, 2}} {
		w := brewed(houseOf("jar keg tun", last("z", "tun", 2), held("a", "keg", 3)))
		checkActs(t, "somebody fell", changedLink(w, func(w *impl.CtlWorld) { *w = fallen(*w, fell...) }), saidInHouse(t, "z+ a+"))
	}
}

func TestHeardStep(t *testing.T) {
	h := houseOf("keg tun", brewer("b", "fill", 7))
	for _, c := range []struct {
		flown, amount int
		row           string
	}{{12, 12, "b+"}, {11, 12, "b-"}, {0, 12, "b-"}, {1, 12, "b-"}, {12, 11, "b-"}, {5, 5, "b+"}, {5, 4, "b-"}, {5, 6, "b-"}, {1, 1, "b+"}} {
		w := movedMalt(h, c.flown, "b fill 1 malt "+strconv.Itoa(c.amount))
		checkActs(t, strconv.Itoa(c.flown)+" of "+strconv.Itoa(c.amount), w, func(w *impl.MaltWorld) {
			w.House, w.Jobs = played(t, w.House, c.row), nil
		})
	}
	// The station of the place tells it, whatever another place of it is.
	checkActs(t, "elsewhere at the station", movedMalt(h, 12, "b fill 1 tun 12"), func(w *impl.MaltWorld) { w.House, w.Jobs = played(t, w.House, "b+"), nil })
	checkActs(t, "at another station", movedMalt(h, 12, "b fill 1 keg 12"), func(w *impl.MaltWorld) { w.House, w.Jobs = played(t, w.House, "b-"), nil })
}

func TestHeardStepOfWhomItIsNot(t *testing.T) {
	goes := func(w *impl.MaltWorld) { w.Jobs = nil }
	for what, c := range map[string]struct {
		house impl.RunHouse
		job   string
	}{
		"it went on":                    {houseOf("keg tun", brewer("b", "rest", 0)), "b fill 1 malt 12"},
		"it went on, and was less":      {houseOf("keg tun", brewer("b", "look", 1)), "b fill 1 malt 13"},
		"it waits where it went on to":  {houseOf("keg tun", brewer("b", "go", -1)), "b fill 1 malt 12"},
		"it waits where it was":         {houseOf("keg tun", brewer("b", "fill", -1)), "b fill 1 malt 12"},
		"it waits, and was less":        {houseOf("keg tun", brewer("b", "fill", -1)), "b fill 1 malt 2"},
		"it has ended":                  {houseOf("keg tun"), "b fill 1 malt 12"},
		"another one is there":          {houseOf("keg tun", brewer("c", "rest", 0)), "b fill 1 malt 12"},
		"another one is at that phase":  {houseOf("keg tun", brewer("c", "rest", 1)), "b rest 1 malt 12"},
		"a phase that there is not":     {houseOf("keg tun", brewer("b", "rest", 0)), "b none 1 malt 12"},
		"it is at an end's name":        {houseOf("keg tun", brewer("b", "rest", 0)), "b good 1 malt 12"},
		"it must be held yet, and well": {houseOf("keg tun", brewer("b", "rest", 2)), "b rest 1 malt 12"},
	} {
		checkActs(t, what, movedMalt(c.house, 12, c.job), goes)
	}
	// What has to be held goes badly at any time, and well when it is held.
	checkActs(t, "it must be held yet, and badly", movedMalt(houseOf("keg tun", brewer("b", "rest", 2)), 11, "b rest 1 malt 12"), func(w *impl.MaltWorld) { w.House, w.Jobs = played(t, w.House, "b-"), nil })
	checkActs(t, "it looks", movedMalt(houseOf("keg tun", brewer("b", "look", 2)), 11, "b look 1 malt 11"), func(w *impl.MaltWorld) {
		w.House, w.Jobs = played(t, w.House, "b+"), nil
		linked(w, toMove("tun b j c keg", 12))
		w.Jobs = jobsOf("b go 2 tun 12")
	})
}

// A job that the master has in mind stays; one that stands on its disk alone is gone.
func TestHeardStepOfJobsThatAreThere(t *testing.T) {
	h := houseOf("keg tun", brewer("b", "fill", 7))
	checkActsNot(t, "it goes", moving(h, 5, "b fill 1 malt 12"))
	asks := brewed(h, jobsOf("b fill 1 malt 12")...)
	linked(&asks, toMove("malt a j b tun", 12))
	checkActsNot(t, "it asks, and stands on no disk", asks)
	halting := moving(h, 5, "b fill 1 malt 12")
	linked(&halting, haltOf(1))
	checkActsNot(t, "it is halting", halting)
	halting.Ctl = impl.CtlCalm(halting.Ctl, 2)
	checkActsNot(t, "it is halting still", halting)
	ended := movedMalt(h, 5, "b fill 1 malt 5")
	ended.Ctl.Disk = moving(h, 5).Ctl.Disk
	checkActs(t, "it is on disk alone", ended, func(w *impl.MaltWorld) { w.House, w.Jobs = played(t, w.House, "b+"), nil })
	checkActs(t, "another number is there", moving(h, 5, "b fill 2 malt 5"), func(w *impl.MaltWorld) { w.House, w.Jobs = played(t, w.House, "b-"), nil })
}

func TestHeardStepOfSeveral(t *testing.T) {
	w := movedMalt(houseOf("jar keg malt tun", batchAt(batchOf("z", recipe("p clean s . 0 9 h saved", "h hold s . 3 9 good good"), "s=jar"), "p", 1), batchAt(batchOf("m", recipe("p clean s . 0 9 h saved", "h hold s . 3 9 good good"), "s=keg"), "h", 1), batchAt(batchOf("a", recipe("p clean s . 0 9 good scrapped"), "s=tun"), "p", 4)), 12,
		"a p 1 malt 12", "c p 1 malt 12", "m p 1 malt 12", "z p 1 malt 11")
	checkActs(t, "in the order of the jobs", w, func(w *impl.MaltWorld) { w.House, w.Jobs = played(t, w.House, "a+ z-"), nil })
	// The first lets the second go on, who has waited at that very phase; then it is heard, too.
	first := batchAt(batchOf("a", recipe("p clean s . 0 9 good scrapped"), "s=tun"), "p", 4)
	second := batchOf("b", recipe("p clean s . 0 9 h scrapped", "h test s . 0 9 good good"), "s=tun")
	checkActs(t, "one after the other", movedMalt(houseOf("keg tun", first, second), 12, "a p 1 malt 12", "b p 1 malt 12"), func(w *impl.MaltWorld) { w.House, w.Jobs = played(t, w.House, "a+ b+"), nil })
	// The other way round it waits when it is heard of, and asks then for what it is at.
	first.Name, second.Name = "b", "a"
	checkActs(t, "one ahead of the other", movedMalt(houseOf("keg tun", first, second), 12, "a p 1 malt 12", "b p 1 malt 12"), func(w *impl.MaltWorld) {
		w.House = played(t, w.House, "b+")
		linked(w, toClean("tun"))
		w.Jobs = jobsOf("a p 2 tun 1")
	})
	// Some stay, some go.
	w = moving(houseOf("keg tun", brewer("b", "fill", 7)), 5, "a fill 2 malt 12", "b fill 1 malt 12", "c fill 3 malt 12", "d fill 9 keg 1")
	checkActs(t, "some stay", w, func(w *impl.MaltWorld) { w.Jobs = w.Jobs[1:2] })
}

func TestActingWithoutTheMaster(t *testing.T) {
	down := func(w impl.MaltWorld) impl.MaltWorld {
		return changedLink(w, func(w *impl.CtlWorld) { *w = fallen(*w, 0) })
	}
	h := houseOf("keg tun", brewer("b", "fill", 7))
	checkActsNot(t, "nothing is heard", down(movedMalt(h, 12, "b fill 1 malt 12")))
	checkActsNot(t, "nothing is asked", down(brewed(h)))
	checkActsNot(t, "nothing is halted", down(moving(h, 12, "b fill 1 malt 12")))
	checkActsNot(t, "of nobody", down(moving(houseOf("keg tun"), 5, "b fill 1 malt 12", "c go 7 keg 1")))
	w := down(brewed(houseOf("jar keg tun", batchAt(batchOf("c", recipe("h hold s . 3 9 q good", "q clean s . 0 9 good saved"), "s=jar"), "h", 3), brewer("b", "fill", 2)), jobsOf("x y 5 keg 3")...))
	checkActs(t, "something is held alone", w, saidInHouse(t, "c+"))
}

// checkAsks asks for what MaltAct begins, in a world in which nothing else is due.
func checkAsks(t *testing.T, what string, w impl.MaltWorld, e impl.CtlEvent, jobs ...string) {
	t.Helper()
	checkActs(t, what, w, func(w *impl.MaltWorld) {
		linked(w, e)
		w.Jobs = jobsOf(jobs...)
	})
}

func TestAskedStep(t *testing.T) {
	some := someMalts()
	checkAsks(t, "fills", some["one fills"], toMove("malt a j b tun", 12), "b fill 1 malt 12")
	checkAsks(t, "fills for long", some["one fills longer"], toMove("malt a j b tun", 12), "b fill 1 malt 12")
	checkAsks(t, "cleans", some["one cleans"], toClean("tun"), "b wash 1 tun 1")
	lye := brewed(houseOf("jar keg lye tun", batchAt(batchOf("n", recipe("p fill x lye 5 9 good saved"), "x=tun"), "p", 0)))
	checkAsks(t, "fills with lye", lye, toMove("lye f tun", 5), "n p 1 lye 5")
	moves := brewed(houseOf("keg lye malt", batchAt(batchOf("n", recipe("q move y x 1000 9 good saved"), "x=keg y=malt"), "q", 8)))
	checkActs(t, "moves more than is asked of places", moves, func(w *impl.MaltWorld) {
		linked(w, toMove("malt a j c keg", 1000))
		w.Jobs = jobsOf("n q 1 malt 1000")
	})
	// Its number is the master's next one.
	for _, last := range []int{1, 7, 999998, 999999} {
		w := changedLink(some["one fills"], func(w *impl.CtlWorld) { w.Mind.Last = last })
		checkAsks(t, "behind many", w, toMove("malt a j b tun", 12), "b fill "+strconv.Itoa(last+1)+" malt 12")
		w = changedLink(some["one cleans"], func(w *impl.CtlWorld) { w.Mind.Last, w.Disk.Last = last, 3 })
		checkAsks(t, "behind many", w, toClean("tun"), "b wash "+strconv.Itoa(last+1)+" tun 1")
	}
	// What stations are up is not asked.
	checkAsks(t, "stations fell", changedLink(some["one fills"], func(w *impl.CtlWorld) { *w = fallen(*w, 1, 2, 3) }), toMove("malt a j b tun", 12), "b fill 1 malt 12")
}

func TestAskedStepOfWhatTheMasterRefuses(t *testing.T) {
	some := someMalts()
	checkActsNot(t, "no route", at1("p move x y 7 9 good saved", "x=jar y=keg"))
	checkActsNot(t, "no vessel of the stuff", at1("p fill s wort 7 9 good saved", "s=tun"))
	checkActsNot(t, "nothing is left there", some["one moves"])
	checkActsNot(t, "no number is left", changedLink(some["one fills"], func(w *impl.CtlWorld) { w.Mind.Last = impl.ClaimMaxNumber }))
	checkActsNot(t, "no number is left to clean", changedLink(some["one cleans"], func(w *impl.CtlWorld) { w.Mind.Last = impl.ClaimMaxNumber }))
	for _, e := range []impl.CtlEvent{toMove("malt d k e tun", 3), toMove("malt a j c keg", 3), toMove("lye f tun", 3), toClean("j"), {Kind: impl.CtlPlaces, Number: impl.ClaimPermit, Places: []string{"k", "tun"}}} {
		w := copied(some["one fills"])
		linked(&w, e)
		checkActsNot(t, "a place is used", w)
	}
	w := copied(some["one cleans"])
	linked(&w, toMove("malt d k e tun", 3))
	checkActsNot(t, "a place to be cleaned is used", w)
	w = copied(some["one fills"])
	linked(&w, toClean("jar"), toClean("keg"), toClean("k"))
	checkAsks(t, "the master has three jobs", w, toMove("malt a j b tun", 12), "b fill 4 malt 12")
	linked(&w, toClean("lye"))
	checkActsNot(t, "the master has four jobs", w)
}

func TestAskedStepAlongALongWay(t *testing.T) {
	lines := []string{"stuff a", "vessel a 9 w", "vessel b 9 v"}
	at := "a"
	for _, letter := range strings.Split("cdefghijkl", "") {
		station := choose(letter < "h", "w", "v")
		lines = append(lines, "joint "+letter+" "+station, "valve v"+letter+" "+at+" "+letter+" "+station)
		at = letter
	}
	lines = append(lines, "valve vm l b v")
	b := batchAt(batchOf("b", recipe("p fill s a 2 9 good saved"), "s=b"), "p", 0)
	w := impl.MaltWorld{Ctl: begun(written(lines...), fill("l", "a", "a", 5)), House: houseOf("b", b)}
	checkAsks(t, "twelve places", w, toMove("a vc c vd d ve e vf f vg g vh h vi i vj j vk k vl l vm b", 2), "b p 1 a 2")
}

func TestAskedStepOfSeveral(t *testing.T) {
	fills := func(name, thing string) impl.RunBatch {
		return batchAt(batchOf(name, recipe("f fill s malt 3 9 good saved"), "s="+thing), "f", 0)
	}
	cleans := func(name, thing string) impl.RunBatch {
		return batchAt(batchOf(name, recipe("c clean s . 0 9 good saved"), "s="+thing), "c", 0)
	}
	checkAsks(t, "two ask for the same place", brewed(houseOf("keg tun", fills("z", "tun"), fills("a", "keg"))), toMove("malt a j b tun", 3), "z f 1 malt 3")
	checkAsks(t, "two ask, the other way round", brewed(houseOf("keg tun", fills("a", "keg"), fills("z", "tun"))), toMove("malt a j c keg", 3), "a f 1 malt 3")
	// What others fill from may be a thing of somebody who goes on.
	checkAsks(t, "one cleans what the other fills from", brewed(houseOf("malt tun", cleans("z", "malt"), fills("a", "tun"))), toClean("malt"), "z c 1 malt 1")
	checkAsks(t, "one fills from what the other cleans", brewed(houseOf("malt tun", fills("a", "tun"), cleans("z", "malt"))), toMove("malt a j b tun", 3), "a f 1 malt 3")
	w := brewed(houseOf("jar keg lye tun", cleans("z", "jar"), fills("m", "tun"), cleans("c", "lye"), cleans("a", "keg")))
	checkActs(t, "as many as the master takes", w, func(w *impl.MaltWorld) {
		linked(w, toClean("jar"), toMove("malt a j b tun", 3), toClean("lye"), toClean("keg"))
		w.Jobs = jobsOf("a c 4 keg 1", "c c 3 lye 1", "m f 2 malt 3", "z c 1 jar 1")
	})
	w = brewed(houseOf("jar keg lye malt tun", cleans("z", "jar"), cleans("m", "tun"), cleans("c", "lye"), cleans("a", "keg"), cleans("b", "malt")))
	checkActs(t, "one more than the master takes", w, func(w *impl.MaltWorld) {
		linked(w, toClean("jar"), toClean("tun"), toClean("lye"), toClean("keg"))
		w.Jobs = jobsOf("a c 4 keg 1", "c c 3 lye 1", "m c 2 tun 1", "z c 1 jar 1")
	})
	// Who has a job does not ask again, whatever that job is of.
	for _, job := range []string{"z f 1 malt 3", "z x 1 jar 9", "z c 1 keg 3"} {
		w := moving(houseOf("jar tun", cleans("z", "jar")), 2, job)
		at := w.Jobs[0].At
		checkActs(t, "one has asked", w, func(w *impl.MaltWorld) {
			if at != "c" {
				linked(w, haltOf(1))
			}
		})
	}
	w = moving(houseOf("jar keg tun", cleans("z", "jar"), cleans("a", "keg")), 2, "a c 1 malt 3")
	checkActs(t, "one of two has asked", w, func(w *impl.MaltWorld) {
		linked(w, toClean("jar"))
		w.Jobs = jobsOf("a c 1 malt 3", "z c 2 jar 1")
	})
}

// sameJobs has so many jobs of others under the first number, all of them halted already.
func sameJobs(many int) []string {
	var all []string
	for _, name := range numbered("n", many) {
		all = append(all, name+" p 1 malt 1000")
	}
	return all
}

func TestAskedStepOfAsManyAsThereCanBe(t *testing.T) {
	cleans := func(name, thing string) impl.RunBatch {
		return batchAt(batchOf(name, recipe("c clean s . 0 9 good saved"), "s="+thing), "c", 0)
	}
	for many := range 9 {
		w := moving(houseOf("jar keg tun", cleans("z", "jar"), cleans("a", "keg")), 2, sameJobs(many)...)
		linked(&w, haltOf(1))
		checkActs(t, strconv.Itoa(many)+" have asked", w, func(w *impl.MaltWorld) {
			if many < 8 {
				linked(w, toClean("jar"))
				w.Jobs = append(w.Jobs, jobOf("z c 2 jar 1"))
			}
			if many < 7 {
				linked(w, toClean("keg"))
				w.Jobs = append(jobsOf("a c 3 keg 1"), w.Jobs...)
			}
		})
	}
	// Those that are gone make room.
	texts := sameJobs(8)
	texts[3] = "n13 p 9 malt 1000"
	w := moving(houseOf("jar keg tun", cleans("z", "jar"), cleans("a", "keg")), 2, texts...)
	linked(&w, haltOf(1))
	checkActs(t, "one is gone", w, func(w *impl.MaltWorld) {
		linked(w, toClean("jar"))
		w.Jobs = append(append(w.Jobs[:3:3], w.Jobs[4:]...), jobOf("z c 2 jar 1"))
	})
}

func TestHaltedStep(t *testing.T) {
	halts := func(w *impl.MaltWorld) { linked(w, haltOf(1)) }
	at := func(phase string, since int) impl.RunHouse { return houseOf("keg tun", brewer("b", phase, since)) }
	checkActsNot(t, "nothing yet", moving(at("fill", 7), 0, "b fill 1 malt 12"))
	checkActsNot(t, "one less", moving(at("fill", 7), 11, "b fill 1 malt 12"))
	checkActs(t, "just as much", moving(at("fill", 7), 12, "b fill 1 malt 12"), halts)
	checkActsNot(t, "one more", moving(at("fill", 7), 12, "b fill 1 malt 11"))
	checkActsNot(t, "much less", moving(at("fill", 7), 5, "b fill 1 malt 1000"))
	checkActs(t, "it waits there", moving(at("fill", -1), 5, "b fill 1 malt 12"), halts)
	checkActs(t, "it went on", moving(at("rest", 0), 5, "b fill 1 malt 12"), halts)
	checkActs(t, "it waits elsewhere", moving(at("rest", -1), 5, "b fill 1 malt 12"), halts)
	checkActs(t, "it has ended", moving(houseOf("keg tun"), 5, "b fill 1 malt 12"), halts)
	checkActs(t, "another one is there", moving(houseOf("keg tun", brewer("c", "look", 1)), 5, "b look 1 malt 12"), halts)
	checkActsNot(t, "it is there, whatever kind that phase has", moving(at("look", 0), 5, "b look 1 malt 12"))
	checkActs(t, "as much at another place of the station", moving(at("fill", 7), 12, "b fill 1 tun 12"), halts)
	checkActsNot(t, "as much, but at another station", moving(at("fill", 7), 12, "b fill 1 keg 12"))
	// It is halted wherever it is asked for, or goes; what is halting, or ending, stays as it is.
	asks := brewed(houseOf("keg tun"), jobsOf("b fill 1 malt 12")...)
	linked(&asks, toMove("malt a j b tun", 12))
	checkActs(t, "it asks", asks, halts)
	for rounds := range 7 {
		w := moving(houseOf("keg tun"), 5, "b fill 1 malt 12")
		linked(&w, haltOf(1))
		w.Ctl = impl.CtlCalm(w.Ctl, rounds)
		if len(w.Ctl.Mind.Jobs) > 0 {
			checkActsNot(t, "it is halted already", w)
		}
	}
	permit := brewed(houseOf("keg tun"), jobsOf("b fill 1 malt 12")...)
	linked(&permit, impl.CtlEvent{Kind: impl.CtlPlaces, Number: impl.ClaimPermit, Places: []string{"jar"}})
	permit.Ctl = impl.CtlCalm(permit.Ctl, 6)
	checkActsNot(t, "somebody may work there", permit)
}

func TestHaltedStepOfSeveral(t *testing.T) {
	w := moving(houseOf("jar keg lye tun", batchAt(usesOne("z", "jar", 9), "p", 1), batchAt(usesOne("m", "lye", 9), "p", 0), usesOne("a", "keg", 9)), 12)
	linked(&w, toClean("jar"), toClean("keg"), toClean("lye"))
	w.Jobs = jobsOf("a p 3 keg 1", "m p 4 lye 1", "x p 1 malt 12", "z p 2 jar 1")
	checkActs(t, "a waits, and x is not there", w, func(w *impl.MaltWorld) { linked(w, haltOf(3), haltOf(1)) })
	w = withMeter(w, 2, 1)
	w.Ctl.Meters[0].Station = "mid"
	checkActs(t, "the jar was cleaned, too", w, func(w *impl.MaltWorld) { linked(w, haltOf(3), haltOf(1), haltOf(2)) })
	// What has just come into Jobs is looked at as all others: its number may have a meter already.
	checkActs(t, "a meter of that number", withMeter(someMalts()["one fills"], 1, 12), func(w *impl.MaltWorld) {
		linked(w, toMove("malt a j b tun", 12), haltOf(1))
		w.Jobs = jobsOf("b fill 1 malt 12")
	})
	checkAsks(t, "a meter of that number that tells less", withMeter(someMalts()["one fills"], 1, 11), toMove("malt a j b tun", 12), "b fill 1 malt 12")
	checkActs(t, "a cleaning of that number", withMeter(someMalts()["one cleans"], 1, 1), func(w *impl.MaltWorld) {
		linked(w, toClean("tun"), haltOf(1))
		w.Jobs = jobsOf("b wash 1 tun 1")
	})
	// A halted job's batch asks for nothing else until it is heard that it is gone.
	checkActs(t, "at the next phase that asks", moving(houseOf("keg tun", brewer("b", "wash", 0)), 5, "b fill 1 malt 12"), func(w *impl.MaltWorld) { linked(w, haltOf(1)) })
}

// Each step sees what those ahead of it have done.
func TestStepsOneBehindTheOther(t *testing.T) {
	asksAgain := recipe("p fill s malt 12 9 q r", "q clean s . 0 9 good saved", "r fill s malt 1 9 good scrapped")
	w := movedMalt(houseOf("keg tun", batchAt(batchOf("b", asksAgain, "s=tun"), "p", 3)), 12, "b p 1 malt 12")
	checkActs(t, "heard well, and asked", w, func(w *impl.MaltWorld) {
		w.House = played(t, w.House, "b+")
		linked(w, toClean("tun"))
		w.Jobs = jobsOf("b q 2 tun 1")
	})
	w = movedMalt(houseOf("keg tun", batchAt(batchOf("b", asksAgain, "s=tun"), "p", 3)), 2, "b p 1 malt 12")
	checkActs(t, "heard badly, and asked", w, func(w *impl.MaltWorld) {
		w.House = played(t, w.House, "b-")
		linked(w, toMove("malt a j b tun", 1))
		w.Jobs = jobsOf("b r 2 malt 1")
	})
	held := batchAt(batchOf("b", recipe("h hold s . 2 9 f saved", "f fill s malt 4 9 good saved"), "s=tun"), "h", 2)
	checkActs(t, "held, and asked", brewed(houseOf("keg tun", held)), func(w *impl.MaltWorld) {
		w.House = played(t, w.House, "b+")
		linked(w, toMove("malt a j b tun", 4))
		w.Jobs = jobsOf("b f 1 malt 4")
	})
	// What was held is not heard of any more where it was, and its job is halted.
	checkActs(t, "held, and halted", moving(houseOf("keg tun", held), 5, "b h 1 malt 12"), func(w *impl.MaltWorld) {
		w.House = played(t, w.House, "b+")
		linked(w, haltOf(1))
	})
	checkActs(t, "held, and not heard", movedMalt(houseOf("keg tun", held), 5, "b h 1 malt 12"), func(w *impl.MaltWorld) {
		w.House = played(t, w.House, "b+")
		linked(w, toMove("malt a j b tun", 4))
		w.Jobs = jobsOf("b f 2 malt 4")
	})
	checkActs(t, "held, and heard where it is now", movedMalt(houseOf("keg tun", held), 5, "b f 1 malt 12"), func(w *impl.MaltWorld) {
		w.House, w.Jobs = played(t, w.House, "b+ b-"), nil
	})
	// One that has ended leaves its thing to one that asks at once.
	ends := batchAt(batchOf("e", recipe("h hold s . 2 9 good saved"), "s=tun"), "h", 5)
	checkActs(t, "held, and another one asks", brewed(houseOf("keg tun", ends, brewer("b", "fill", -1))), func(w *impl.MaltWorld) {
		w.House = played(t, w.House, "e+")
		linked(w, toMove("malt a j b tun", 12))
		w.Jobs = jobsOf("b fill 1 malt 12")
	})
	// A cleaning that was done.
	cleaned := batchAt(usesOne("c", "jar", 9), "p", 3)
	w = brewed(houseOf("jar tun", cleaned), jobsOf("c p 1 jar 1")...)
	linked(&w, toClean("jar"))
	w.Ctl = impl.CtlCalm(w.Ctl, 4)
	checkActsNot(t, "not cleaned yet", w)
	linked(&w, happens(impl.CtlCleans, 2, 1))
	checkActs(t, "cleaned", w, func(w *impl.MaltWorld) { linked(w, haltOf(1)) })
	linked(&w, haltOf(1))
	w.Ctl = impl.CtlCalm(w.Ctl, 9)
	checkActs(t, "cleaned, and gone", w, func(w *impl.MaltWorld) { w.House, w.Jobs = played(t, w.House, "c+"), nil })
}

// A batch may end, and another one of its name begin; by its At alone it is told whose job that was.
func TestJobsOfOthersOfOneName(t *testing.T) {
	h := played(t, startedIn(t, opened(t, "keg tun"), batchOf("b", recipe("p fill s malt 12 1 good saved"), "s=tun")), ".")
	h = startedIn(t, h, batchOf("b", recipe("p fill s malt 2 5 good saved"), "s=keg"))
	checkActsNot(t, "it goes on at a phase of that name", moving(h, 5, "b p 1 malt 12"))
	checkActs(t, "it is heard at a phase of that name", movedMalt(h, 12, "b p 1 malt 12"), func(w *impl.MaltWorld) { w.House, w.Jobs = played(t, w.House, "b+"), nil })
	h = startedIn(t, played(t, h, "b-"), batchOf("b", recipe("q fill s malt 2 5 good saved"), "s=keg"))
	checkActs(t, "it is at another phase", moving(h, 5, "b p 1 malt 12"), func(w *impl.MaltWorld) { linked(w, haltOf(1)) })
	checkActs(t, "it asks when the other's job is gone", movedMalt(h, 12, "b p 1 malt 12"), func(w *impl.MaltWorld) {
		linked(w, toMove("malt a j c keg", 2))
		w.Jobs = jobsOf("b q 2 malt 2")
	})
}

func TestBusyWorldActs(t *testing.T) {
	// The permit of a is of a vessel's joint, and runs: it is not halted. The move of b goes on; the vat of c is cleaned at its station, and halting already; gone's job is under a number that is no more.
	checkActs(t, "busy", busyMalt(), func(w *impl.MaltWorld) { w.Jobs = w.Jobs[:3] })
	w := busyMalt()
	w.Jobs[1].Amount = 2
	checkActs(t, "as much as was asked for", w, func(w *impl.MaltWorld) {
		linked(w, haltOf(3))
		w.Jobs = w.Jobs[:3]
	})
	checkActsNot(t, "full", someMalts()["a full cellar"])
	checkActs(t, "full, and gone on from", otherMalt(someMalts()["a full cellar"], func(w *impl.MaltWorld) { w.Jobs[0].At = "fill" }), func(w *impl.MaltWorld) { linked(w, haltOf(3)) })
}
