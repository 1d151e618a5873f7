package tests

import (
	"fmt"
	"math/rand"
	"slices"
	"testing"

	"loop.example/malthouse/impl"
)

// checkPromise47 says that somebody goes on, if anybody is there, and that no thing is used by two of those.
func checkPromise47(t *testing.T, h impl.RunHouse) {
	t.Helper()
	checkHouse(t, "on the way", h, true)
	if len(h.Batches) > 0 && len(impl.RunGoes(h)) == 0 {
		t.Errorf("nobody goes on: %+v", h)
	}
	used := map[string]string{}
	for _, b := range h.Batches {
		if b.Since == -1 {
			continue
		}
		for _, thing := range impl.RunOwn(b) {
			if other, isUsed := used[thing]; isUsed {
				t.Errorf("%s is used by %s and by %s: %+v", thing, other, b.Name, h)
			}
			used[thing] = b.Name
		}
	}
}

// checkPromise48 looks at what is left behind one call that has no code.
func checkPromise48(t *testing.T, d deed, after impl.RunHouse) {
	t.Helper()
	ahead, behind := impl.RunLeft(d.House), impl.RunLeft(after)
	if d.Call == runTick && len(d.House.Batches) > 0 && behind >= ahead || d.Call == runSay && behind > ahead {
		t.Errorf("%v: of %d ticks %d are left: %+v becomes %+v", d.Call, ahead, behind, d.House, after)
	}
}

// checkPromise49 looks at who has begun, and at those who were there.
func checkPromise49(t *testing.T, d deed, after impl.RunHouse) {
	t.Helper()
	many := len(d.House.Batches)
	if len(after.Batches) != many+1 || after.Batches[many].Name != d.Name || after.Batches[many].Start <= d.House.Last {
		t.Errorf("%s does not come last: %+v becomes %+v", d.Name, d.House, after)
		return
	}
	var all []string
	for _, one := range d.Slots {
		all = append(all, one.Thing)
	}
	slices.Sort(all)
	if needs := after.Share.Batches[slices.Index(namesOfBatches(after.Share), d.Name)].Needs; !slices.Equal(needs, all) {
		t.Errorf("%s needs %q, and has slots for %q", d.Name, needs, all)
	}
	for i, b := range d.House.Batches {
		was := d.House.Share.Batches[slices.Index(namesOfBatches(d.House.Share), b.Name)]
		is := after.Share.Batches[slices.Index(namesOfBatches(after.Share), b.Name)]
		if b.Since >= 0 && (!sameBatch(b, after.Batches[i]) || !slices.Equal(was.Has, is.Has) || !slices.Equal(was.Needs, is.Needs)) {
			t.Errorf("%s does not stay as it is: %+v becomes %+v", b.Name, d.House, after)
		}
	}
	if ahead, behind, bound := impl.RunLeft(d.House), impl.RunLeft(after), impl.RecBound(d.Recipe, d.Recipe[0].Name); behind != ahead+bound {
		t.Errorf("of %d ticks and %d more %d are left", ahead, bound, behind)
	}
}

// checkPromise50 looks at how the phase of a batch that is there goes, or does not.
func checkPromise50(t *testing.T, d deed, after impl.RunHouse, code int) {
	t.Helper()
	b := d.House.Batches[slices.IndexFunc(d.House.Batches, func(b impl.RunBatch) bool { return b.Name == d.Name })]
	p := phaseOfBatch(b)
	mustStay := b.Since == -1 || p.Kind == impl.RecHold && d.Well && b.Since < p.N
	if code != choose(mustStay, 6, 0) || mustStay && !sameHouse(after, d.House) {
		t.Errorf("%s for %d at %+v: %d", d.Name, b.Since, p, code)
	}
	if code != 0 {
		return
	}
	to := choose(d.Well, p.Then, p.Else)
	at := slices.IndexFunc(after.Batches, func(b impl.RunBatch) bool { return b.Name == d.Name })
	if end := impl.RecEnd(to); end > 0 {
		want := []impl.RunDone{{Name: d.Name, End: end, Tick: d.House.Now}}
		if at >= 0 || !slices.Equal(after.Dones[max(0, len(after.Dones)-1):], want) {
			t.Errorf("%s goes from %+v to %+v", d.Name, p, after)
		}
	} else if at < 0 || after.Batches[at].At != to || after.Batches[at].Since > 0 {
		t.Errorf("%s goes from %+v to %+v", d.Name, p, after)
	}
}

// checkPromisesOfDeed makes a call in a house that others have led to, and tells what comes of it.
func checkPromisesOfDeed(t *testing.T, d deed) (impl.RunHouse, int) {
	t.Helper()
	after, code := d.answer()
	checkPromise47(t, after)
	isThere := slices.Contains(namesOfBatches(d.House.Share), d.Name)
	switch {
	case d.Call == runSay && isThere:
		checkPromise50(t, d, after, code)
	case d.Call == runStart && code == 0:
		checkPromise49(t, d, after)
	}
	if code == 0 {
		checkPromise48(t, d, after)
	} else if !sameHouse(after, d.House) {
		t.Errorf("with %d %+v becomes %+v", code, d.House, after)
	}
	return after, code
}

// checkAllEnd lets all the ticks pass that are left, and between them phases go in any way; then nobody is there, and each has ended as it could from where it was.
func checkAllEnd(t *testing.T, from impl.RunHouse, between func(h impl.RunHouse) impl.RunHouse) {
	t.Helper()
	h := from
	for range impl.RunLeft(from) {
		h, _ = impl.RunTick(between(h))
	}
	if len(h.Batches) > 0 || len(h.Dones) < len(from.Batches) {
		t.Errorf("behind %d ticks %+v becomes %+v", impl.RunLeft(from), from, h)
		return
	}
	ended := h.Dones[len(h.Dones)-len(from.Batches):]
	for _, b := range from.Batches {
		at := slices.IndexFunc(ended, func(d impl.RunDone) bool { return d.Name == b.Name })
		if at < 0 || !impl.RecCan(b.Recipe, b.At, ended[at].End) {
			t.Errorf("%s at %s ends by %+v: %+v", b.Name, b.At, ended, from)
		}
	}
}

// nothingSaid lets all be late.
func nothingSaid(h impl.RunHouse) impl.RunHouse {
	return h
}

// saysAnything lets some of those that are there go on in any way.
func saysAnything(dice *rand.Rand) func(h impl.RunHouse) impl.RunHouse {
	often := 1 + dice.Intn(12)
	return func(h impl.RunHouse) impl.RunHouse {
		for _, b := range h.Batches {
			if dice.Intn(often) == 0 {
				h, _ = impl.RunSay(h, b.Name, dice.Intn(3) > 0)
			}
		}
		return h
	}
}

// noteHouse counts how a house stands.
func noteHouse(met counts, h impl.RunHouse) {
	waits := len(h.Batches) - len(impl.RunGoes(h))
	met.note("nobody", len(h.Batches) == 0)
	met.note("all but one wait", waits > 1 && waits == len(h.Batches)-1)
	met.note("several go on", len(h.Batches)-waits > 1)
	met.note("all go on", waits == 0 && len(h.Batches) > 2)
	for _, b := range h.Batches {
		isFree := true
		for _, thing := range impl.RunOwn(b) {
			who := impl.ShareWho(h.Share, thing)
			isFree = isFree && (who == "" || who == b.Name)
		}
		met.note("waits for what is free", b.Since == -1 && isFree)
		met.note("waits, and has", b.Since == -1 && len(h.Share.Batches[slices.Index(namesOfBatches(h.Share), b.Name)].Has) > 0)
	}
}

// rowDeed draws a call that is mostly right, so that houses fill and empty again.
func rowDeed(dice *rand.Rand, h impl.RunHouse) deed {
	names := []string{"a", "b", "c", "d", "e", "f", "g"}
	if dice.Intn(3) == 0 || len(h.Batches) == 0 {
		return startOf(h, drawnBatch(dice, names[dice.Intn(len(names))], h.Share.Things))
	}
	if dice.Intn(2) == 0 {
		return tickOf(h)
	}
	return sayOf(h, h.Batches[dice.Intn(len(h.Batches))].Name, dice.Intn(3) > 0)
}

// Promises 47 to 50.
func TestPromisesOfRowsOfDeeds(t *testing.T) {
	met := besideEachOther(8, func(i int) counts {
		dice, met := rand.New(rand.NewSource(int64(470+i))), counts{}
		for range 16 {
			h, _ := impl.RunOpen(numbered("t", 6+dice.Intn(3)))
			for range 120 {
				d := rowDeed(dice, h)
				if dice.Intn(25) == 0 {
					met.note(d.Call.with(checkDeedByReading(t, "in a row", d)), true)
				}
				after, code := checkPromisesOfDeed(t, d)
				if t.Failed() {
					return met
				}
				met.note(d.Call.with(code), true)
				noteHouse(met, after)
				h = after
				if dice.Intn(60) == 0 {
					checkAllEnd(t, h, saysAnything(dice))
				}
			}
			checkAllEnd(t, h, nothingSaid)
		}
		return met
	})
	checkCounted(t, met, 100, runStart.with(0), runStart.with(3), runStart.with(4), runSay.with(0), runSay.with(6), runTick.with(0))
	checkCounted(t, met, 100, "all but one wait", "several go on", "all go on", "waits for what is free", "waits, and has")
	checkCounted(t, met, 20, "nobody")
}

// smallPlan is things, and batches that may begin there at any time, each by its name.
type smallPlan struct {
	things  string
	batches []impl.RunBatch
}

func smallPlans() []smallPlan {
	two := recipe("p clean x . 0 2 q saved", "q move x y 1 1 good scrapped")
	held := recipe("h hold x . 1 2 good r", "r test y . 0 1 saved scrapped")
	back := recipe("p clean x . 0 1 q q", "q clean y . 0 2 r good", "r test x . 0 1 good saved")
	return []smallPlan{
		{"k t", []impl.RunBatch{batchOf("b", two, "x=k y=t"), batchOf("a", two, "x=t y=k"), batchOf("c", recipe("p hold x . 2 3 good saved"), "x=k")}},
		{"k t", []impl.RunBatch{batchOf("b", back, "x=k y=t"), batchOf("a", two, "x=t y=k"), batchOf("c", held, "x=k y=t")}},
		{"k t u", []impl.RunBatch{batchOf("a", two, "x=k y=t"), batchOf("b", two, "x=t y=u"), batchOf("c", two, "x=u y=k"), usesOne("d", "k", 1)}},
		{"k t u", []impl.RunBatch{batchOf("c", recipe("p move x y 1 1 q good", "q clean z . 0 1 good saved"), "x=k y=t z=u"), batchOf("a", back, "x=u y=k"), batchOf("b", held, "x=t y=u"), usesOne("d", "t", 2)}},
		{"k t u v", []impl.RunBatch{batchOf("a", two, "x=k y=t"), batchOf("b", back, "x=t y=u"), batchOf("c", two, "x=u y=v"), batchOf("d", held, "x=v y=k")}},
		{"k", []impl.RunBatch{usesOne("a", "k", 1), usesOne("b", "k", 2), usesOne("c", "k", 1), usesOne("d", "k", 1), usesOne("e", "k", 1)}},
		{"k t", []impl.RunBatch{usesTwo("a", "k", "t", 1), usesOne("b", "t", 1), usesOne("c", "k", 1), usesTwo("d", "t", "k", 1)}},
	}
}

// deeds is all calls that may be made in a house of a plan.
func (s smallPlan) deeds(h impl.RunHouse) []deed {
	all := []deed{tickOf(h)}
	for _, b := range s.batches {
		all = append(all, startOf(h, b), sayOf(h, b.Name, true), sayOf(h, b.Name, false))
	}
	return all
}

// withoutTime is a house as it would be if it had only just opened: what comes of it is the same, but for the time and how others ended.
func withoutTime(h impl.RunHouse) impl.RunHouse {
	h = copied(h)
	h.Now, h.Last, h.Dones = 0, len(h.Batches), nil
	for i := range h.Batches {
		h.Batches[i].Start = i + 1
	}
	return h
}

// Promises 47 to 50, in all houses that calls lead to in some small plans.
func TestPromisesInAllSmallHouses(t *testing.T) {
	plans := smallPlans()
	met := besideEachOther(len(plans), func(i int) counts {
		dice, met := rand.New(rand.NewSource(int64(480+i))), counts{}
		first := opened(t, plans[i].things)
		all, seen := []impl.RunHouse{first}, map[string]bool{fmt.Sprint(first): true}
		for next := 0; next < len(all) && !t.Failed(); next++ {
			noteHouse(met, all[next])
			checkAllEnd(t, all[next], nothingSaid)
			checkAllEnd(t, all[next], saysAnything(dice))
			for _, d := range plans[i].deeds(all[next]) {
				met.note(d.Call.with(checkDeedByReading(t, "small", d)), true)
				after, _ := checkPromisesOfDeed(t, d)
				after = withoutTime(after)
				if key := fmt.Sprint(after); !seen[key] {
					seen[key] = true
					all = append(all, after)
				}
			}
		}
		if len(all) < 70 {
			t.Errorf("plan %d leads to %d houses", i, len(all))
		}
		return met
	})
	checkCounted(t, met, 100, runStart.with(0), runStart.with(3), runSay.with(0), runSay.with(3), runSay.with(6), runTick.with(0))
	checkCounted(t, met, 100, "all but one wait", "several go on", "all go on", "waits for what is free", "waits, and has")
}
