package tests

import (
	"fmt"
	"math/rand"
	"reflect"
	"slices"
	"strconv"
	"strings"
	"sync"
	"testing"

	"loop.example/malthouse/impl"
)

// houseOf has batches that have begun one after the other; who goes on has just what it needs for that.
func houseOf(things string, batches ...impl.RunBatch) impl.RunHouse {
	h := impl.RunHouse{Now: 9, Last: len(batches), Share: sharing(things)}
	for i, b := range batches {
		b.Start = i + 1
		h.Batches = append(h.Batches, b)
		one := impl.ShareBatch{Name: b.Name, Needs: thingsByDefinition(b, b.At)}
		if b.Since >= 0 {
			one.Has = ownByDefinition(b)
		}
		h.Share.Batches = append(h.Share.Batches, one)
	}
	slices.SortStableFunc(h.Share.Batches, func(a, b impl.ShareBatch) int { return strings.Compare(a.Name, b.Name) })
	return h
}

// otherHouse is a house in memory of its own of which something is changed.
func otherHouse(h impl.RunHouse, change func(h *impl.RunHouse)) impl.RunHouse {
	other := copied(h)
	change(&other)
	return other
}

// fillAndGo is the recipe of the document's example: its two phases take 3 and 4 ticks.
func fillAndGo() []impl.RecPhase {
	return recipe("fill fill s1 malt 5 3 go scrapped", "go move s1 s2 5 4 good saved")
}

func tunFirst(name string) impl.RunBatch {
	return batchOf(name, fillAndGo(), "s1=tun s2=keg")
}

func kegFirst(name string) impl.RunBatch {
	return batchOf(name, fillAndGo(), "s1=keg s2=tun")
}

// turning has twelve phases, each as long as it can be, and as many slots as there can be things.
func turning() []impl.RecPhase {
	r := longest()
	for i := range r {
		r[i].A, r[i].B = "s"+strconv.Itoa(i%8), "s"+strconv.Itoa((i+1)%8)
	}
	return r
}

// fullHouse has as much of everything as may be.
func fullHouse() impl.RunHouse {
	var batches []impl.RunBatch
	for i := range impl.ShareMaxBatches {
		batches = append(batches, batchOf("batch-"+strconv.Itoa(i), turning(), "s0=t10 s1=t11 s2=t12 s3=t13 s4=t14 s5=t15 s6=t16 s7=t17"))
	}
	batches[2].Since = 999
	h := houseOf(strings.Join(numbered("t", impl.ShareMaxThings), " "), batches...)
	h.Share.Batches[2].Has = slices.Clone(h.Share.Things)
	h.Now, h.Last = impl.RunMaxTick, impl.RunMaxStarts
	for i := range h.Batches {
		h.Batches[i].Start = impl.RunMaxStarts - 4 + i
	}
	for i, name := range numbered("done-", impl.RunMaxDones) {
		h.Dones = append(h.Dones, impl.RunDone{Name: name, End: 1 + i%3, Tick: impl.RunMaxTick - 19 + i})
	}
	return h
}

// smallHouse leaves room for more in each list: b goes on, and a waits for the tun.
func smallHouse() impl.RunHouse {
	h := houseOf("jar keg tun vat", batchAt(batchOf("b", brewing(), "s1=tun s2=vat"), "rest", 5), tunFirst("a"), batchOf("c", brewing(), "s1=jar s2=keg"))
	h.Dones = []impl.RunDone{{Name: "d", End: 1, Tick: 3}, {Name: "a", End: 3, Tick: 3}, {Name: "d", End: 2, Tick: 9}}
	h.Last = 7
	return h
}

// someHouses is houses that are ok, by what they are.
func someHouses() map[string]impl.RunHouse {
	return map[string]impl.RunHouse{
		"nothing":             {},
		"empty lists":         {Share: impl.ShareBook{Things: []string{}, Batches: []impl.ShareBatch{}}, Batches: []impl.RunBatch{}, Dones: []impl.RunDone{}},
		"things alone":        houseOf("keg tun"),
		"dones alone":         {Now: 2, Dones: []impl.RunDone{{Name: "a", End: 2, Tick: 0}, {Name: "a", End: 2, Tick: 2}}},
		"one that waits":      houseOf("keg tun", tunFirst("a")),
		"one that goes on":    houseOf("keg tun", batchAt(tunFirst("a"), "fill", 0)),
		"one with both":       houseOf("keg tun", batchAt(tunFirst("a"), "go", 3)),
		"the first going":     houseOf("keg tun", batchAt(tunFirst("a"), "fill", 1), kegFirst("b")),
		"the second going":    houseOf("keg tun", batchAt(tunFirst("a"), "go", 0), kegFirst("b")),
		"the last going":      houseOf("keg tun", tunFirst("a"), batchAt(kegFirst("b"), "go", 0)),
		"named the other way": houseOf("keg tun", batchAt(tunFirst("z"), "go", 0), kegFirst("m"), tunFirst("a")),
		"more things":         houseOf("a b c d e f keg tun", tunFirst("tun"), batchAt(kegFirst("keg"), "fill", 2)),
		"apart from others":   houseOf("keg pan tun vat", batchAt(tunFirst("a"), "go", 1), batchAt(batchOf("b", fillAndGo(), "s1=pan s2=vat"), "go", 2)),
		"with what others do": houseOf("good saved scrapped", someBatches()["called like ends"]),
		"small":               smallHouse(),
		"full":                fullHouse(),
		"where nothing leads": houseOf("keg", batchAt(batchOf("b", recipe("p test s . 0 2 good good", "q clean s . 0 5 saved saved"), "s=keg"), "q", 4)),
		"waits, and has": otherHouse(houseOf("keg tun", tunFirst("a"), kegFirst("b")), func(h *impl.RunHouse) {
			h.Share.Batches[0].Has = []string{"keg"}
		}),
		"waits, and has all": otherHouse(houseOf("keg tun", tunFirst("a"), kegFirst("b")), func(h *impl.RunHouse) {
			h.Share.Batches[1].Has = []string{"keg", "tun"}
		}),
		"goes on, and has more": otherHouse(houseOf("keg tun", batchAt(tunFirst("a"), "fill", 2)), func(h *impl.RunHouse) {
			h.Share.Batches[0].Has = []string{"keg", "tun"}
		}),
	}
}

func checkHouse(t *testing.T, what string, h impl.RunHouse, want bool) {
	t.Helper()
	if got := impl.RunHouseOk(h); got != want {
		t.Errorf("%s: RunHouseOk = %v; want %v: %+v", what, got, want, h)
	}
	if !want {
		checkLeft(t, what, h, 0)
	}
}

func checkLeft(t *testing.T, what string, h impl.RunHouse, want int) {
	t.Helper()
	if got := impl.RunLeft(h); got != want {
		t.Errorf("%s: RunLeft = %d; want %d: %+v", what, got, want, h)
	}
}

func checkHouseWith(t *testing.T, what string, h impl.RunHouse, want bool, change func(h *impl.RunHouse)) {
	t.Helper()
	checkHouse(t, what, otherHouse(h, change), want)
}

func TestHousesThatAreOk(t *testing.T) {
	for what, h := range someHouses() {
		checkHouse(t, what, h, true)
	}
	if impl.RunMaxTick != 100000 || impl.RunMaxDones != 20 || impl.RunMaxStarts != 1000000 {
		t.Error("the limits are not the document's")
	}
}

func TestNowAndLastOfHouses(t *testing.T) {
	for _, number := range append(farNumbers(), 99999, 100000, 100001, 999999, 1000000, 1000001) {
		for _, what := range []string{"nothing", "one that goes on", "the first going"} {
			h := someHouses()[what]
			many := len(h.Batches)
			checkHouseWith(t, what+", Now", h, number >= 0 && number <= 100000, func(h *impl.RunHouse) { h.Now = number })
			checkHouseWith(t, what+", Last", h, number >= many && number <= 1000000, func(h *impl.RunHouse) { h.Last = number })
		}
	}
	h := fullHouse()
	checkHouseWith(t, "full, a tick more", h, false, func(h *impl.RunHouse) { h.Now++ })
	checkHouseWith(t, "full, a tick less", h, false, func(h *impl.RunHouse) { h.Now-- })
	checkHouseWith(t, "full, a start more", h, false, func(h *impl.RunHouse) { h.Last++ })
	checkHouseWith(t, "full, a start less", h, false, func(h *impl.RunHouse) { h.Last-- })
}

// A house whose batches would be ok shares by a book that is not ok, or not safe.
func TestHousesMustBeSafe(t *testing.T) {
	ring := houseOf("keg tun", batchAt(tunFirst("a"), "fill", 0), batchAt(kegFirst("b"), "fill", 0))
	if !impl.ShareBookOk(ring.Share) {
		t.Errorf("the book of the ring is not ok: %+v", ring.Share)
	}
	checkHouse(t, "both go on, in a ring", ring, false)
	checkHouseWith(t, "both wait, in a ring", ring, false, func(h *impl.RunHouse) { h.Batches[0].Since, h.Batches[1].Since = -1, -1 })
	checkHouseWith(t, "one has nothing", ring, true, func(h *impl.RunHouse) { h.Batches[0].Since, h.Share.Batches[0].Has = -1, nil })
	both := houseOf("keg tun", batchAt(tunFirst("a"), "go", 0), batchAt(kegFirst("b"), "go", 0))
	checkHouse(t, "both have all", both, false)
	checkHouseWith(t, "things that are not in order", houseOf("keg tun", tunFirst("a")), false, func(h *impl.RunHouse) { slices.Reverse(h.Share.Things) })
	checkHouseWith(t, "too many things", houseOf("keg tun", tunFirst("a")), false, func(h *impl.RunHouse) { h.Share.Things = append(h.Share.Things, numbered("z", 7)...) })
	checkHouseWith(t, "as many things as can be", houseOf("keg tun", tunFirst("a")), true, func(h *impl.RunHouse) { h.Share.Things = append(h.Share.Things, numbered("z", 6)...) })
	checkHouseWith(t, "a thing that is no name", houseOf("keg tun", tunFirst("a")), false, func(h *impl.RunHouse) { h.Share.Things = append(h.Share.Things, "z z") })
	checkHouseWith(t, "a thing that is not there", houseOf("keg tun", tunFirst("a")), false, func(h *impl.RunHouse) { h.Share.Things = []string{"keg"} })
	checkHouseWith(t, "those who share not in order", smallHouse(), false, func(h *impl.RunHouse) { slices.Reverse(h.Share.Batches) })
	for what, b := range someShares() {
		checkHouse(t, what, impl.RunHouse{Share: b}, len(b.Batches) == 0)
	}
	for i, b := range spoiltShares() {
		checkHouse(t, strconv.Itoa(i), impl.RunHouse{Share: b}, false)
		b.Batches = nil
		checkHouse(t, strconv.Itoa(i), impl.RunHouse{Share: b}, impl.ShareBookOk(b))
	}
}

func TestDonesOfHouses(t *testing.T) {
	for what, h := range map[string]impl.RunHouse{"small": smallHouse(), "full": fullHouse()} {
		for i := range h.Dones {
			for _, end := range farNumbers() {
				checkHouseWith(t, what, h, end >= 1 && end <= 3, func(h *impl.RunHouse) { h.Dones[i].End = end })
			}
			least, most := 0, h.Now
			if i > 0 {
				least = h.Dones[i-1].Tick
			}
			if i+1 < len(h.Dones) {
				most = h.Dones[i+1].Tick
			}
			for _, tick := range append(farNumbers(), least-1, least, least+1, most-1, most, most+1, h.Now, h.Now+1) {
				checkHouseWith(t, what, h, tick >= least && tick <= most, func(h *impl.RunHouse) { h.Dones[i].Tick = tick })
			}
			checkHouseWith(t, what, h, true, func(h *impl.RunHouse) { h.Dones[i].Name = h.Dones[0].Name })
			checkHouseWith(t, what, h, true, func(h *impl.RunHouse) { h.Dones[i].Name = h.Batches[0].Name })
		}
	}
	eachText(func(text string, isName bool) {
		for i := range 3 {
			checkHouseWith(t, "Name", smallHouse(), isName, func(h *impl.RunHouse) { h.Dones[i].Name = text })
		}
	})
	for many := range 24 {
		dones := slices.Repeat([]impl.RunDone{{Name: "a", End: 3, Tick: 9}}, many)
		checkHouseWith(t, strconv.Itoa(many), smallHouse(), many <= 20, func(h *impl.RunHouse) { h.Dones = dones })
		checkHouse(t, strconv.Itoa(many), impl.RunHouse{Now: 9, Dones: dones}, many <= 20)
		checkHouse(t, strconv.Itoa(many), impl.RunHouse{Now: 8, Dones: dones}, many == 0)
	}
	// Of two only the later one may have the greater tick; both may have the same.
	for _, now := range []int{0, 3, 100000} {
		for first := -1; first <= 4; first++ {
			for second := -1; second <= 4; second++ {
				h := impl.RunHouse{Now: now, Dones: []impl.RunDone{{Name: "a", End: 1, Tick: first}, {Name: "b", End: 1, Tick: second}}}
				checkHouse(t, fmt.Sprint(now, first, second), h, first >= 0 && first <= second && second <= now)
			}
		}
	}
}

// A batch that is not ok is not ok in a house, though it needs nothing, as does who shares in its place.
func TestBatchesThatAreNotOkInHouses(t *testing.T) {
	for what, b := range spoiltBatches() {
		h := houseOf("keg tun", brewBatch())
		h.Batches[0] = b
		checkHouse(t, what, h, false)
		h.Share.Batches[0].Needs = nil
		checkHouse(t, what+", needs nothing", h, false)
		h.Share.Batches[0].Name = b.Name
		checkHouse(t, what+", so called", h, false)
		for _, at := range []int{0, 1, 2} {
			checkHouseWith(t, what, smallHouse(), false, func(h *impl.RunHouse) { h.Batches[at] = b })
		}
	}
	for at := range 3 {
		checkHouseWith(t, "Since", smallHouse(), false, func(h *impl.RunHouse) { h.Batches[at].Since = -2 })
		checkHouseWith(t, "At", smallHouse(), false, func(h *impl.RunHouse) { h.Batches[at].At = "good" })
		checkHouseWith(t, "Start", smallHouse(), false, func(h *impl.RunHouse) { h.Batches[at].Start = 0 })
	}
}

func TestStartsInHouses(t *testing.T) {
	for first := -1; first <= 6; first++ {
		for second := -1; second <= 6; second++ {
			for last := -1; last <= 6; last++ {
				h := houseOf("keg tun", batchAt(tunFirst("a"), "fill", 1), kegFirst("b"))
				h.Batches[0].Start, h.Batches[1].Start, h.Last = first, second, last
				checkHouse(t, fmt.Sprint(first, second, last), h, first >= 1 && first < second && second <= last)
			}
		}
	}
	for what, h := range map[string]impl.RunHouse{"small": smallHouse(), "full": fullHouse()} {
		for _, wrong := range swapped(h.Batches) {
			checkHouseWith(t, what+", out of order", h, false, func(h *impl.RunHouse) { h.Batches = wrong })
		}
		for i := 1; i < len(h.Batches); i++ {
			checkHouseWith(t, what+", starts the same", h, false, func(h *impl.RunHouse) { h.Batches[i].Start = h.Batches[i-1].Start })
			checkHouseWith(t, what+", starts turned", h, false, func(h *impl.RunHouse) {
				h.Batches[i].Start, h.Batches[i-1].Start = h.Batches[i-1].Start, h.Batches[i].Start
			})
		}
		for i := range h.Batches {
			checkHouseWith(t, what+", started behind the last", h, false, func(h *impl.RunHouse) { h.Batches[i].Start = h.Last + 1 })
		}
	}
}

func TestNamesInHouses(t *testing.T) {
	two := houseOf("keg tun", batchAt(tunFirst("a"), "fill", 1), tunFirst("b"))
	checkHouse(t, "two", two, true)
	for what, names := range map[string][4]string{
		"both a": {"a", "a", "a", "b"}, "both b": {"b", "b", "a", "b"}, "both of one, so shared": {"a", "a", "a", "a"},
		"the first of another name": {"c", "b", "a", "b"}, "the second": {"a", "c", "a", "b"}, "who shares is of another name": {"a", "b", "a", "c"},
		"who shares first": {"a", "b", "-", "b"}, "no name": {"", "b", "", "b"}, "great letters": {"A", "b", "A", "b"},
	} {
		checkHouseWith(t, what, two, false, func(h *impl.RunHouse) {
			h.Batches[0].Name, h.Batches[1].Name, h.Share.Batches[0].Name, h.Share.Batches[1].Name = names[0], names[1], names[2], names[3]
		})
	}
	for at := range 2 {
		checkHouseWith(t, "two of one name, and one shares", two, false, func(h *impl.RunHouse) {
			h.Batches[0].Name, h.Batches[1].Name, h.Share.Batches = "a", "a", h.Share.Batches[at:at+1]
			h.Batches[0].Since, h.Share.Batches[0].Name = -1, "a"
		})
	}
	// Those that go by the same recipe, with the same things, may change their names; of those that do not, one goes on without what it needs.
	checkHouseWith(t, "turned", two, false, func(h *impl.RunHouse) { h.Batches[0].Name, h.Batches[1].Name = "b", "a" })
	checkHouseWith(t, "both wait, turned", two, true, func(h *impl.RunHouse) { h.Batches[0].Name, h.Batches[1].Name, h.Batches[0].Since = "b", "a", -1 })
	checkHouseWith(t, "all turned", two, true, func(h *impl.RunHouse) {
		h.Batches[0].Name, h.Batches[1].Name = "b", "a"
		h.Share.Batches[0].Has, h.Share.Batches[1].Has = h.Share.Batches[1].Has, h.Share.Batches[0].Has
	})
	eachText(func(text string, isName bool) {
		checkHouse(t, "alone", houseOf("keg tun", tunFirst(text)), isName)
	})
}

func TestAsManyShareAsThereAre(t *testing.T) {
	for what, h := range someHouses() {
		for i := range h.Share.Batches {
			checkHouseWith(t, what+", one too few share", h, false, func(h *impl.RunHouse) { h.Share.Batches = slices.Delete(h.Share.Batches, i, i+1) })
		}
		for i := range h.Batches {
			checkHouseWith(t, what+", one too many share", h, false, func(h *impl.RunHouse) { h.Batches = slices.Delete(h.Batches, i, i+1) })
		}
		if len(h.Share.Batches) < 5 {
			checkHouseWith(t, what+", and one that needs nothing", h, false, func(h *impl.RunHouse) {
				h.Share.Batches = append(h.Share.Batches, impl.ShareBatch{Name: "zz"})
			})
		}
		if len(h.Share.Batches) > 0 {
			checkHouseWith(t, what+", none share", h, false, func(h *impl.RunHouse) { h.Share.Batches = nil })
			checkHouseWith(t, what+", none are there", h, false, func(h *impl.RunHouse) { h.Batches = nil })
		}
	}
	for many := range 9 {
		var batches []impl.RunBatch
		for _, name := range numbered("b", many) {
			batches = append(batches, tunFirst(name))
		}
		checkHouse(t, strconv.Itoa(many), houseOf("keg tun", batches...), many <= 5)
	}
}

// Each that shares needs just what its batch may yet need from where it is.
func TestNeedsInHouses(t *testing.T) {
	things := []string{"jar", "keg", "tun", "vat"}
	for _, b := range []impl.RunBatch{brewBatch(), tunFirst("a"), batchOf("a", recipe("p clean s1 . 0 3 q r", "q move s2 s3 1 3 r good", "r clean s4 . 0 2 good good"), "s1=tun s2=vat s3=keg s4=jar")} {
		for _, p := range b.Recipe {
			b := batchAt(b, p.Name, -1)
			want := thingsByDefinition(b, p.Name)
			for bits := range 16 {
				needs := pick(things, bits)
				h := houseOf("jar keg tun vat", b)
				h.Share.Batches[0].Needs = needs
				checkHouse(t, fmt.Sprint(p.Name, needs), h, slices.Equal(needs, want))
			}
			h := houseOf("jar keg tun vat", b)
			slices.Reverse(h.Share.Batches[0].Needs)
			checkHouse(t, p.Name+", turned", h, len(want) == 1)
		}
	}
	for what, h := range someHouses() {
		for i := range h.Share.Batches {
			checkHouseWith(t, what+", needs nothing", h, false, func(h *impl.RunHouse) { h.Share.Batches[i].Needs, h.Share.Batches[i].Has = nil, nil })
		}
	}
	// What is no slot of the batch is no thing of a house.
	lone := houseOf("jar keg pan tun vat", batchAt(forkedBatch(), "lone", -1))
	checkHouse(t, "an empty text is needed", lone, false)
	lone.Share.Things = slices.Insert(lone.Share.Things, 0, "")
	checkHouse(t, "and is a thing", lone, false)
	lone.Share.Batches[0].Needs = []string{"jar", "keg"}
	checkHouse(t, "and is not needed", lone, false)
	lone.Share.Things = lone.Share.Things[1:]
	checkHouse(t, "and is no thing", lone, false)
}

// Who goes on has all it needs for that; who waits has anything.
func TestWhatIsHadInHouses(t *testing.T) {
	things := []string{"jar", "keg", "tun", "vat"}
	b := batchOf("a", recipe("p clean s1 . 0 3 q q", "q move s3 s2 1 3 r r", "r clean s4 . 0 2 s s", "s move s1 s4 1 2 t t", "t move s2 s3 1 1 good good"), "s1=tun s2=vat s3=keg s4=jar")
	for _, one := range []struct{ at, own string }{{"p", "tun"}, {"q", "keg vat"}, {"r", "jar"}, {"s", "jar tun"}, {"t", "keg vat"}} {
		for bits := range 16 {
			has := pick(things, bits)
			for since := -1; since <= 0; since++ {
				h := houseOf("jar keg tun vat", batchAt(b, one.at, since))
				h.Share.Batches[0].Has = has
				isHad := since == -1 || isAmong(strings.Fields(one.own), has)
				checkHouse(t, fmt.Sprint(one.at, since, has), h, isHad && isAmong(has, h.Share.Batches[0].Needs))
			}
		}
	}
	// What one needs who goes on another one has.
	h := houseOf("keg tun", batchAt(tunFirst("a"), "fill", 0), tunFirst("b"))
	checkHouse(t, "had by who goes on", h, true)
	checkHouseWith(t, "had by who waits", h, false, func(h *impl.RunHouse) { h.Share.Batches[0].Has, h.Share.Batches[1].Has = nil, []string{"tun"} })
	checkHouseWith(t, "had by both", h, false, func(h *impl.RunHouse) { h.Share.Batches[1].Has = []string{"tun"} })
	checkHouseWith(t, "had by nobody", h, false, func(h *impl.RunHouse) { h.Share.Batches[0].Has = nil })
	for what, h := range someHouses() {
		for _, b := range h.Batches {
			at := slices.IndexFunc(h.Share.Batches, func(one impl.ShareBatch) bool { return one.Name == b.Name })
			checkHouseWith(t, what+", has nothing", h, b.Since == -1, func(h *impl.RunHouse) { h.Share.Batches[at].Has = nil })
		}
	}
}

func TestWhatIsLeft(t *testing.T) {
	for what, want := range map[string]int{
		"nothing": 0, "empty lists": 0, "things alone": 0, "dones alone": 0,
		"one that waits": 7, "one that goes on": 7, "one with both": 1, "the first going": 13, "the second going": 11, "the last going": 11,
		"named the other way": 18, "more things": 12, "apart from others": 5, "with what others do": 2, "small": 63 + 7 + 98, "full": 5*12000 - 999,
		"where nothing leads": 1, "waits, and has": 14, "waits, and has all": 14, "goes on, and has more": 5,
	} {
		checkLeft(t, what, someHouses()[what], want)
	}
	// The whole of a phase is left to who waits, and to who has just begun it; then a tick less with each tick.
	for _, b := range []impl.RunBatch{tunFirst("a"), brewBatch(), batchOf("a", recipe("p test s . 0 1000 q good", "q test s . 0 1 good good"), "s=keg")} {
		for _, p := range b.Recipe {
			bound := boundByDefinition(b.Recipe, p.Name)
			checkLeft(t, p.Name, houseOf("keg tun", batchAt(b, p.Name, -1)), bound)
			for since := range p.Within {
				checkLeft(t, p.Name, houseOf("keg tun", batchAt(b, p.Name, since)), bound-since)
			}
			checkLeft(t, p.Name, houseOf("keg tun", batchAt(b, p.Name, p.Within)), 0)
			checkLeft(t, p.Name, houseOf("keg tun", batchAt(b, p.Name, -2)), 0)
		}
	}
}

// The document's example, as it stands between its four boards.
func TestTheExampleOfHouses(t *testing.T) {
	for i, one := range []struct {
		house impl.RunHouse
		left  int
	}{
		{houseOf("keg tun", batchAt(tunFirst("a"), "fill", 0), kegFirst("b")), 14},
		{houseOf("keg tun", batchAt(tunFirst("a"), "fill", 1), kegFirst("b")), 13},
		{houseOf("keg tun", batchAt(tunFirst("a"), "go", 0), kegFirst("b")), 11},
		{otherHouse(houseOf("keg tun", batchAt(kegFirst("b"), "fill", 0)), func(h *impl.RunHouse) {
			h.Dones, h.Last, h.Batches[0].Start = []impl.RunDone{{Name: "a", End: 2, Tick: 5}}, 2, 2
		}), 7},
	} {
		checkHouse(t, strconv.Itoa(i), one.house, true)
		checkLeft(t, strconv.Itoa(i), one.house, one.left)
	}
}

// boundByDefinition is how many ticks may pass along any way from a phase of an ok recipe on: how far each phase may be is known when it is come to, as all that lead to it stand ahead.
func boundByDefinition(r []impl.RecPhase, from string) int {
	passed, most := map[string]int{from: 0}, 0
	for _, p := range r {
		if ahead, mayCome := passed[p.Name]; mayCome {
			for _, next := range []string{p.Then, p.Else} {
				passed[next] = max(passed[next], ahead+p.Within)
				most = max(most, passed[next])
			}
		}
	}
	return most
}

// donesByDefinition, houseByDefinition and leftByDefinition read the chapter a second time.
func donesByDefinition(h impl.RunHouse) bool {
	ahead := 0
	for _, d := range h.Dones {
		if !nameByDefinition(d.Name) || d.End != 1 && d.End != 2 && d.End != 3 || d.Tick < ahead || d.Tick > h.Now {
			return false
		}
		ahead = d.Tick
	}
	return len(h.Dones) <= 20
}

func houseByDefinition(h impl.RunHouse) bool {
	if h.Now < 0 || h.Now > 100000 || h.Last < 0 || h.Last > 1000000 || !donesByDefinition(h) || !isSafeByDefinition(h.Share) {
		return false
	}
	share := map[string]impl.ShareBatch{}
	for _, one := range h.Share.Batches {
		share[one.Name] = one
	}
	ahead := 0
	for _, b := range h.Batches {
		one, isThere := share[b.Name]
		if !isThere || !batchByDefinition(b) || b.Start <= ahead || b.Start > h.Last || !slices.Equal(one.Needs, thingsByDefinition(b, b.At)) {
			return false
		}
		if b.Since != -1 && !isAmong(ownByDefinition(b), one.Has) {
			return false
		}
		// Who is found once is not there for another one of this name.
		delete(share, b.Name)
		ahead = b.Start
	}
	return len(share) == 0
}

func leftByDefinition(h impl.RunHouse) int {
	sum := 0
	if houseByDefinition(h) {
		for _, b := range h.Batches {
			sum += boundByDefinition(b.Recipe, b.At) - max(0, b.Since)
		}
	}
	return sum
}

func checkHouseByReading(t *testing.T, what string, h impl.RunHouse) bool {
	t.Helper()
	want := houseByDefinition(h)
	checkHouse(t, what, h, want)
	checkLeft(t, what, h, leftByDefinition(h))
	return want
}

func TestHousesByReading(t *testing.T) {
	for what, h := range someHouses() {
		if !checkHouseByReading(t, what, h) {
			t.Errorf("%s is not ok, by reading: %+v", what, h)
		}
	}
}

func TestHousesOfWhichOneThingIsChanged(t *testing.T) {
	for what, from := range someHouses() {
		if what == "full" {
			continue
		}
		counted := counts{}
		eachWithOneChange(from, textsOfAll(from), func(h impl.RunHouse) {
			isOk := checkHouseByReading(t, "one thing of "+what, h)
			counted.note("ok", isOk)
			counted.note("not ok", !isOk)
		})
		checkCounted(t, counted, 1, "ok", "not ok")
	}
}

func TestHousesOfWhichTwoThingsAreChanged(t *testing.T) {
	from := houseOf("k t", batchAt(batchOf("a", recipe("p clean s . 0 2 good good"), "s=k"), "p", 1), batchOf("b", recipe("p clean s . 0 2 good good"), "s=t"))
	from.Dones = []impl.RunDone{{Name: "a", End: 3, Tick: 9}}
	texts := []string{"", "a", "b", "k", "t", "p", "good"}
	counted := counts{}
	eachWithOneChange(from, texts, func(h impl.RunHouse) {
		eachWithOneChange(h, texts, func(h impl.RunHouse) {
			isOk := checkHouseByReading(t, "two things", h)
			counted.note("ok", isOk)
			counted.note("not ok", !isOk)
		})
	})
	checkCounted(t, counted, 1000, "ok", "not ok")
}

// eachSmallBatch tells none, and each way in which one can stand that goes by the document's recipe.
func eachSmallBatch(b impl.RunBatch, tell func(some []impl.RunBatch)) {
	tell(nil)
	for _, at := range []string{"fill", "go"} {
		for _, since := range []int{-1, 0, 2} {
			tell([]impl.RunBatch{batchAt(b, at, since)})
		}
	}
}

// eachSmallSharer tells none, and each way in which one can share two things.
func eachSmallSharer(name string, tell func(some []impl.ShareBatch)) {
	tell(nil)
	for bits := range 16 {
		things := []string{"keg", "tun"}
		tell([]impl.ShareBatch{{Name: name, Needs: pick(things, bits&3), Has: pick(things, bits>>2)}})
	}
}

func TestAllSmallHouses(t *testing.T) {
	counted := counts{}
	eachSmallBatch(tunFirst("b"), func(first []impl.RunBatch) {
		eachSmallBatch(kegFirst("a"), func(second []impl.RunBatch) {
			h := impl.RunHouse{Last: 2, Share: sharing("keg tun")}
			h.Batches = copied(slices.Concat(first, second))
			for i := range h.Batches {
				h.Batches[i].Start = i + 1
			}
			eachSmallSharer("a", func(a []impl.ShareBatch) {
				eachSmallSharer("b", func(b []impl.ShareBatch) {
					h.Share.Batches = slices.Concat(a, b)
					isOk := checkHouseByReading(t, "small", h)
					counted.note(fmt.Sprint(len(h.Batches), " ok"), isOk)
					counted.note("not ok", !isOk)
				})
			})
		})
	})
	// Of one alone: it has, of two things, any if it waits, its own and any if it goes on, and both if it goes on with both.
	if counted["0 ok"] != 1 || counted["1 ok"] != 2*(4+2*2+4+2*1) {
		t.Errorf("%v", counted)
	}
	checkCounted(t, counted, 50, "2 ok", "not ok")
}

func drawnHouse(dice *rand.Rand) impl.RunHouse {
	now := dice.Intn(100001)
	return drawnHouseOf(dice, now, numbered("t", 6+dice.Intn(3)), drawnBatch)
}

// drawnHouseOf draws one that is ok, of batches that are drawn: who goes on has what it needs for that, if it can.
func drawnHouseOf(dice *rand.Rand, now int, things []string, drawn func(dice *rand.Rand, name string, things []string) impl.RunBatch) impl.RunHouse {
	h := impl.RunHouse{Now: now, Share: impl.ShareBook{Things: things}}
	names := []string{"a", "b", "c", "d", "e", "f", "g"}
	for _, i := range dice.Perm(len(names))[:dice.Intn(6)] {
		b := drawn(dice, names[i], h.Share.Things)
		needs, own := thingsByDefinition(b, b.At), ownByDefinition(b)
		if slices.Contains(needs, "") {
			b.At, b.Since = b.Recipe[0].Name, -1
			needs = thingsByDefinition(b, b.At)
		}
		h.Last += 1 + dice.Intn(3)
		b.Start = h.Last
		h.Share, _ = impl.ShareEnter(h.Share, b.Name, needs)
		if b.Since >= 0 {
			book, code := impl.ShareAsk(h.Share, b.Name, own)
			h.Share, b.Since = book, choose(code == 0, b.Since, -1)
		}
		// Who waits may have anything, and who goes on anything more.
		h.Share, _ = impl.ShareAsk(h.Share, b.Name, pick(needs, dice.Intn(256)&dice.Intn(256)))
		h.Batches = append(h.Batches, b)
	}
	h.Last += dice.Intn(3)
	for range dice.Intn(21) {
		h.Dones = append(h.Dones, impl.RunDone{Name: names[dice.Intn(len(names))], End: 1 + dice.Intn(3), Tick: dice.Intn(h.Now + 1)})
	}
	slices.SortFunc(h.Dones, func(a, b impl.RunDone) int { return a.Tick - b.Tick })
	return h
}

func TestDrawnHouses(t *testing.T) {
	dice := rand.New(rand.NewSource(62))
	counted := counts{}
	for range 1500 {
		h := drawnHouse(dice)
		if !checkHouseByReading(t, "drawn", h) {
			t.Errorf("not ok, by reading: %+v", h)
		}
		going := 0
		for _, b := range h.Batches {
			going += choose(b.Since >= 0, 1, 0)
		}
		counted.note("nobody", len(h.Batches) == 0)
		counted.note("one goes on", going == 1)
		counted.note("several go on", going > 1)
		counted.note("some wait", going < len(h.Batches))
		counted.note("as many as can be", len(h.Batches) == 5)
		counted.note("has more than a phase needs", slices.ContainsFunc(h.Share.Batches, func(one impl.ShareBatch) bool { return len(one.Has) > 2 }))
	}
	checkCounted(t, counted, 50, "nobody", "one goes on", "several go on", "some wait", "as many as can be", "has more than a phase needs")
}

// changeHouse changes one thing of a house that has somebody.
func changeHouse(dice *rand.Rand, h *impl.RunHouse) {
	i, j := dice.Intn(len(h.Batches)), dice.Intn(len(h.Batches))
	b, one := &h.Batches[i], &h.Share.Batches[j]
	switch dice.Intn(11) {
	case 0:
		b.At = b.Recipe[dice.Intn(len(b.Recipe))].Name
	case 1:
		b.Since = dice.Intn(14) - 2
	case 2:
		b.Start += dice.Intn(5) - 2
	case 3:
		b.Name = h.Batches[j].Name
	case 4:
		h.Last += dice.Intn(5) - 2
	case 5:
		one.Needs = pick(h.Share.Things, dice.Intn(256))
	case 6:
		one.Has = pick(one.Needs, dice.Intn(256))
	case 7:
		h.Batches = slices.Delete(h.Batches, i, i+1)
	case 8:
		h.Share.Batches = slices.Delete(h.Share.Batches, j, j+1)
	case 9:
		h.Batches[i], h.Batches[j] = h.Batches[j], h.Batches[i]
	case 10:
		b.Slots[0].Thing, b.Slots[len(b.Slots)-1].Thing = b.Slots[len(b.Slots)-1].Thing, b.Slots[0].Thing
	}
}

func TestDrawnHousesThatWereChanged(t *testing.T) {
	dice := rand.New(rand.NewSource(63))
	counted := counts{}
	for range 5000 {
		h := drawnHouse(dice)
		if len(h.Batches) == 0 {
			continue
		}
		changeHouse(dice, &h)
		isOk := checkHouseByReading(t, "changed", h)
		counted.note("ok", isOk)
		counted.note("not ok", !isOk)
	}
	checkCounted(t, counted, 500, "ok", "not ok")
}

// Promise 49, in houses as they need not come about.
func TestWhoBegins(t *testing.T) {
	dice := rand.New(rand.NewSource(49))
	counted := counts{}
	for range 2000 {
		h := drawnHouse(dice)
		d := startOf(h, drawnBatch(dice, "new", h.Share.Things))
		after, code := d.answer()
		if code != 0 {
			counted.note("too many", code == 4)
			continue
		}
		checkHouse(t, "begun", after, true)
		checkPromise49(t, d, after)
		counted.note("beside who goes on", slices.ContainsFunc(h.Batches, func(b impl.RunBatch) bool { return b.Since >= 0 }))
		counted.note("alone", len(h.Batches) == 0)
		counted.note("needs what somebody has", len(impl.ShareWaits(after.Share, "new")) > 0)
	}
	checkCounted(t, counted, 50, "too many", "beside who goes on", "alone", "needs what somebody has")
}

// spoiltHouses is houses that are not ok, each in a way of its own.
func spoiltHouses() []impl.RunHouse {
	var all []impl.RunHouse
	for _, change := range []func(h *impl.RunHouse){
		func(h *impl.RunHouse) { h.Now = -1 }, func(h *impl.RunHouse) { h.Now = 8 }, func(h *impl.RunHouse) { h.Now = impl.RunMaxTick + 1 },
		func(h *impl.RunHouse) { h.Last = -1 }, func(h *impl.RunHouse) { h.Last = 2 }, func(h *impl.RunHouse) { h.Last = impl.RunMaxStarts + 1 },
		func(h *impl.RunHouse) { h.Share = impl.ShareBook{} }, func(h *impl.RunHouse) { h.Share.Things = nil }, func(h *impl.RunHouse) { h.Share.Batches = nil },
		func(h *impl.RunHouse) { h.Share.Batches[1].Has = nil }, func(h *impl.RunHouse) { h.Share.Batches[0].Needs = nil }, func(h *impl.RunHouse) { h.Share.Batches[0].Name = "aa" },
		func(h *impl.RunHouse) { h.Batches = nil }, func(h *impl.RunHouse) { h.Batches[0] = impl.RunBatch{} }, func(h *impl.RunHouse) { h.Batches[1].Start = 1 },
		func(h *impl.RunHouse) { h.Batches[2].Name = "a" }, func(h *impl.RunHouse) { h.Batches[0].At = "wash" }, func(h *impl.RunHouse) { h.Batches[2].Since = 0 },
		func(h *impl.RunHouse) { h.Dones[0].Name = "" }, func(h *impl.RunHouse) { h.Dones[1].End = 4 }, func(h *impl.RunHouse) { h.Dones[2].Tick = 2 },
		func(h *impl.RunHouse) { h.Dones = slices.Repeat(h.Dones[:1], 21) },
	} {
		all = append(all, otherHouse(smallHouse(), change))
	}
	return all
}

func TestHousesThatAreNotOk(t *testing.T) {
	for i, h := range spoiltHouses() {
		checkHouse(t, strconv.Itoa(i), h, false)
		checkHouseByReading(t, strconv.Itoa(i), h)
	}
}

func TestHousesAreNotWrittenInto(t *testing.T) {
	all := spoiltHouses()
	for _, h := range someHouses() {
		all = append(all, h)
	}
	for _, from := range all {
		h := withRoom(from)
		was := withWhatIsBehind(h)
		for range 2 {
			checkHouseByReading(t, "with room", h)
		}
		if !reflect.DeepEqual(withWhatIsBehind(h), was) {
			t.Errorf("the house became %+v", withWhatIsBehind(h))
		}
	}
}

func TestHousesOfVeryLongLists(t *testing.T) {
	h := smallHouse()
	var many []impl.RunBatch
	var sharers []impl.ShareBatch
	for i := range 200000 {
		b := tunFirst("b" + strconv.Itoa(i))
		b.Start = i + 1
		many, sharers = append(many, b), append(sharers, impl.ShareBatch{Name: b.Name})
	}
	for what, change := range map[string]func(h *impl.RunHouse){
		"batches": func(h *impl.RunHouse) { h.Batches = many }, "who shares": func(h *impl.RunHouse) { h.Share.Batches = sharers },
		"both":            func(h *impl.RunHouse) { h.Batches, h.Share.Batches, h.Last = many, sharers, len(many) },
		"one for long":    func(h *impl.RunHouse) { h.Batches = slices.Repeat(h.Batches[:1], 200000) },
		"nobody for long": func(h *impl.RunHouse) { h.Batches = make([]impl.RunBatch, 200000) },
		"things":          func(h *impl.RunHouse) { h.Share.Things = slices.Repeat(h.Share.Things, 50000) },
		"dones":           func(h *impl.RunHouse) { h.Dones = slices.Repeat(h.Dones[:1], 200000) },
		"slots":           func(h *impl.RunHouse) { h.Batches[1].Slots = slices.Repeat(h.Batches[1].Slots, 100000) },
		"a recipe":        func(h *impl.RunHouse) { h.Batches[1].Recipe = slices.Repeat(h.Batches[1].Recipe, 100000) },
		"needs":           func(h *impl.RunHouse) { h.Share.Batches[0].Needs = slices.Repeat(h.Share.Things, 50000) },
		"a name":          func(h *impl.RunHouse) { h.Batches[0].Name = strings.Repeat("b", 1<<20) },
		"a done's name":   func(h *impl.RunHouse) { h.Dones[0].Name = strings.Repeat("b", 1<<20) },
	} {
		checkHouseWith(t, what, h, false, change)
	}
}

// What one call was given must not be seen in the next one, nor in one beside it.
func TestHousesKeepNothing(t *testing.T) {
	all := spoiltHouses()
	for _, h := range someHouses() {
		all = append(all, h)
	}
	var callers sync.WaitGroup
	for caller := range 8 {
		callers.Go(func() {
			for i := range 3 * len(all) {
				checkHouseByReading(t, "beside others", all[(i*7+caller)%len(all)])
			}
		})
	}
	callers.Wait()
}
