package tests

import (
	"math/rand"
	"reflect"
	"slices"
	"strconv"
	"strings"
	"sync"
	"testing"

	"loop.example/malthouse/impl"
)

// brewery has two ways from the malt to the tun, one from the lye to the tun, and none to the jar; two of its vessels are called as stuffs.
func brewery() impl.Plant {
	return written("stuff lye", "stuff malt", "foe lye malt", "vessel jar 9 mid", "vessel keg 30 east", "vessel lye 20 mid", "vessel malt 60 west", "vessel tun 20 west", "joint j west", "joint k mid",
		"valve a j malt west", "valve b j tun west", "valve c j keg east", "valve d k malt mid", "valve e k tun mid", "valve f lye tun mid")
}

func breweryFills() []impl.CtlFill {
	return []impl.CtlFill{fill("m1", "malt", "malt", 40), fill("y1", "lye", "lye", 5)}
}

// brewed is a filled brewery in which nothing has happened but in the house.
func brewed(h impl.RunHouse, jobs ...impl.MaltJob) impl.MaltWorld {
	return impl.MaltWorld{Ctl: begun(brewery(), breweryFills()...), House: h, Jobs: jobs}
}

// jobOf is written with its Batch, At, Number, Place and Amount.
func jobOf(text string) impl.MaltJob {
	part := strings.Fields(text)
	number, _ := strconv.Atoi(part[2])
	amount, _ := strconv.Atoi(part[4])
	return impl.MaltJob{Batch: part[0], At: part[1], Number: number, Place: part[3], Amount: amount}
}

func jobsOf(texts ...string) []impl.MaltJob {
	var all []impl.MaltJob
	for _, text := range texts {
		all = append(all, jobOf(text))
	}
	return all
}

func sameMalt(a, b impl.MaltWorld) bool {
	return reflect.DeepEqual(copied(a), copied(b))
}

func otherMalt(w impl.MaltWorld, change func(w *impl.MaltWorld)) impl.MaltWorld {
	other := copied(w)
	change(&other)
	return other
}

// changedHouse is a world of which the house is another one.
func changedHouse(w impl.MaltWorld, change func(h *impl.RunHouse)) impl.MaltWorld {
	return otherMalt(w, func(w *impl.MaltWorld) { change(&w.House) })
}

// changedLink is a world of which the link is another one.
func changedLink(w impl.MaltWorld, change func(w *impl.CtlWorld)) impl.MaltWorld {
	return otherMalt(w, func(w *impl.MaltWorld) { change(&w.Ctl) })
}

// brewer goes on by the recipe of the document's example: s1 is the tun, s2 the keg.
func brewer(name, at string, since int) impl.RunBatch {
	return batchAt(batchOf(name, brewing(), "s1=tun s2=keg"), at, since)
}

// busyMalt is a busy cellar in which batches go on, and have asked for all that is done there.
func busyMalt() impl.MaltWorld {
	h := houseOf("keg tun vat", brewer("b", "go", 2), usesOne("a", "vat", 9), batchAt(usesOne("c", "vat", 9), "p", 1))
	return impl.MaltWorld{Ctl: busyCellar(), House: h, Jobs: jobsOf("a p 4 vat 1", "b go 3 keg 5", "c p 6 vat 1", "gone fill 1 tun 1000")}
}

// eightJobs has as many jobs as there can be.
func eightJobs(many int) []impl.MaltJob {
	var all []impl.MaltJob
	for i, name := range numbered("b", many) {
		all = append(all, impl.MaltJob{Batch: name, At: "fill", Number: 1 + i%3, Place: "tun", Amount: 1 + i})
	}
	return all
}

// someMalts is worlds that are ok, by what they are.
func someMalts() map[string]impl.MaltWorld {
	all := map[string]impl.MaltWorld{
		"nothing":          {},
		"empty lists":      {Ctl: someWorlds()["empty lists"], House: someHouses()["empty lists"], Jobs: []impl.MaltJob{}},
		"new":              brewed(houseOf("keg tun")),
		"no things":        brewed(impl.RunHouse{}),
		"all things":       brewed(houseOf("jar keg lye malt tun")),
		"one waits":        brewed(houseOf("keg tun", brewer("b", "fill", -1))),
		"one fills":        brewed(houseOf("keg tun", brewer("b", "fill", 0))),
		"one fills longer": brewed(houseOf("jar keg tun", brewer("b", "fill", 29))),
		"one holds":        brewed(houseOf("keg tun", brewer("b", "rest", 2))),
		"one has held":     brewed(houseOf("keg tun", brewer("b", "rest", 3))),
		"one looks":        brewed(houseOf("keg tun", brewer("b", "look", 0))),
		"one moves":        brewed(houseOf("keg tun", brewer("b", "go", 5))),
		"one cleans":       brewed(houseOf("keg tun", brewer("b", "wash", 1))),
		"one has asked":    brewed(houseOf("keg tun", brewer("b", "fill", 1)), jobsOf("b fill 1 malt 12")...),
		"one was less":     brewed(houseOf("keg tun", brewer("b", "fill", 1)), jobsOf("b fill 1000000 keg 1000")...),
		"nobody has asked": brewed(impl.RunHouse{}, jobsOf("0 - 1 jar 1", "good good 1 keg 7", "zzzzzzzz zzzzzzzz 1000000 tun 1000")...),
		"eight have asked": brewed(houseOf("keg tun", brewer("b0", "fill", 1)), eightJobs(8)...),
		"two fill":         brewed(houseOf("jar keg tun", brewer("z", "fill", 3), batchAt(batchOf("b", recipe("f fill s malt 3 9 good saved"), "s=keg"), "f", 0))),
		"busy":             busyMalt(),
		"a full cellar":    {Ctl: fullCellar(), House: houseOf("keg tun vat", brewer("b", "go", 2)), Jobs: jobsOf("b go 3 keg 5")},
		"no stuff at all":  {Ctl: begun(written("vessel a 9 w")), House: houseOf("a"), Jobs: jobsOf("b fill 1 a 1")},
	}
	for _, at := range []int{0, 1, 3} {
		all["computer "+strconv.Itoa(at)+" fell"] = changedLink(all["one has asked"], func(w *impl.CtlWorld) { *w = fallen(*w, at) })
	}
	for what, h := range map[string]impl.RunHouse{"small": smallHouse(), "several go on": someHouses()["apart from others"]} {
		p := written("stuff malt", "vessel jar 9 e", "vessel keg 9 e", "vessel pan 9 e", "vessel tun 9 e", "vessel vat 9 e", "valve a jar keg e")
		all[what] = impl.MaltWorld{Ctl: begun(p), House: h}
	}
	return all
}

func checkMalt(t *testing.T, what string, w impl.MaltWorld, want bool) {
	t.Helper()
	if got := impl.MaltWorldOk(w); got != want {
		t.Errorf("%s: MaltWorldOk = %v; want %v: %+v", what, got, want, w)
	}
}

func TestWholeWorldsThatAreOk(t *testing.T) {
	for what, w := range someMalts() {
		checkMalt(t, what, w, true)
	}
	if impl.MaltMaxJobs != 8 {
		t.Error("the limit is not the document's")
	}
}

// spoiltMalts is worlds that are not ok, by what is wrong with them.
func spoiltMalts() map[string]impl.MaltWorld {
	all := map[string]impl.MaltWorld{}
	for what, w := range spoiltWorlds() {
		all["the link: "+what] = impl.MaltWorld{Ctl: w, House: houseOf("keg tun vat", brewer("b", "go", 2)), Jobs: jobsOf("b go 3 keg 5")}
	}
	for i, h := range spoiltHouses() {
		all["the house: "+strconv.Itoa(i)] = otherMalt(someMalts()["small"], func(w *impl.MaltWorld) { w.House = h })
	}
	for what, change := range map[string]func(w *impl.MaltWorld){
		"nine have asked":        func(w *impl.MaltWorld) { w.Jobs = eightJobs(9) },
		"one has asked twice":    func(w *impl.MaltWorld) { w.Jobs = append(w.Jobs, jobOf("b rest 2 tun 3")) },
		"the same twice":         func(w *impl.MaltWorld) { w.Jobs = append(w.Jobs, w.Jobs...) },
		"backwards":              func(w *impl.MaltWorld) { w.Jobs = append(w.Jobs, jobOf("a fill 2 tun 3")) },
		"by numbers":             func(w *impl.MaltWorld) { w.Jobs = jobsOf("c fill 1 malt 3", "b fill 2 malt 12") },
		"a job of nothing":       func(w *impl.MaltWorld) { w.Jobs = append(w.Jobs, impl.MaltJob{}) },
		"nothing ahead":          func(w *impl.MaltWorld) { w.Jobs = slices.Insert(w.Jobs, 0, impl.MaltJob{}) },
		"a thing that is none":   func(w *impl.MaltWorld) { w.House.Share.Things = strings.Fields("keg pan tun") },
		"a joint as a thing":     func(w *impl.MaltWorld) { w.House.Share.Things = strings.Fields("j keg tun") },
		"the last is a joint":    func(w *impl.MaltWorld) { w.House = houseOf("k") },
		"a valve as a thing":     func(w *impl.MaltWorld) { w.House.Share.Things = strings.Fields("a keg tun") },
		"a station as a thing":   func(w *impl.MaltWorld) { w.House.Share.Things = strings.Fields("keg tun west") },
		"a lot as a thing":       func(w *impl.MaltWorld) { w.House.Share.Things = strings.Fields("keg m1 tun") },
		"things of no plant":     func(w *impl.MaltWorld) { w.Ctl = impl.CtlWorld{} },
		"things of other plants": func(w *impl.MaltWorld) { w.Ctl = begun(cellar()); w.House = houseOf("keg lye tun") },
		"a place of no plant":    func(w *impl.MaltWorld) { w.Ctl, w.House = impl.CtlWorld{}, impl.RunHouse{} },
		"a place of others":      func(w *impl.MaltWorld) { w.Ctl = begun(cellar()) },
	} {
		all[what] = otherMalt(someMalts()["one has asked"], change)
	}
	return all
}

func TestWholeWorldsThatAreNotOk(t *testing.T) {
	for what, w := range spoiltMalts() {
		checkMalt(t, what, w, false)
		if maltByDefinition(w) {
			t.Errorf("%s is ok, by reading", what)
		}
	}
}

// checkJobWith asks whether a world is ok with a job of which something is changed, wherever that job stands.
func checkJobWith(t *testing.T, what string, want bool, change func(j *impl.MaltJob)) {
	t.Helper()
	for at, jobs := range [][]impl.MaltJob{jobsOf("b fill 1 malt 12"), jobsOf("b fill 1 malt 12", "zzzzzzzz x 1 jar 1"), jobsOf("- x 1 jar 1", "b fill 1 malt 12")} {
		w := brewed(houseOf("keg tun", brewer("b", "fill", 1)), jobs...)
		checkMalt(t, what, w, true)
		change(&w.Jobs[at/2])
		checkMalt(t, what, w, want)
	}
}

func TestEachFieldOfAJob(t *testing.T) {
	eachText(func(text string, isName bool) {
		// By its name a job stands between the others.
		checkJobWith(t, "Batch "+text, isName, func(j *impl.MaltJob) { j.Batch = choose(isName, "m", text) })
		checkJobWith(t, "At "+text, isName, func(j *impl.MaltJob) { j.At = text })
		w := brewed(impl.RunHouse{}, impl.MaltJob{Batch: text, At: "p", Number: 1, Place: "tun", Amount: 1})
		checkMalt(t, "Batch "+text+" alone", w, isName)
	})
	for _, number := range append(farNumbers(), 12, 999, 1000, 1001, 999999, 1000000, 1000001) {
		checkJobWith(t, "Number", number >= 1 && number <= 1000000, func(j *impl.MaltJob) { j.Number = number })
		checkJobWith(t, "Amount", number >= 1 && number <= 1000, func(j *impl.MaltJob) { j.Amount = number })
	}
	for _, place := range strings.Fields("jar keg lye malt tun") {
		checkJobWith(t, place, true, func(j *impl.MaltJob) { j.Place = place })
	}
	for _, place := range []string{"", "j", "k", "a", "west", "m1", "fill", "b", "none", "Tun", "tu", "tunn"} {
		checkJobWith(t, place, false, func(j *impl.MaltJob) { j.Place = place })
	}
}

func TestAsManyMaltJobsAsThereCanBe(t *testing.T) {
	for many := range 20 {
		checkMalt(t, strconv.Itoa(many), brewed(houseOf("keg tun"), eightJobs(many)...), many <= 8)
	}
	// Jobs ascend by their batches alone, byte by byte.
	names := strings.Fields("- 0 9 a a- aa b z")
	var jobs []impl.MaltJob
	for i, name := range names {
		jobs = append(jobs, impl.MaltJob{Batch: name, At: "p", Number: 9 - i, Place: "tun", Amount: 9 - i})
	}
	checkMalt(t, "by bytes", brewed(impl.RunHouse{}, jobs...), true)
	for _, other := range swapped(jobs) {
		checkMalt(t, "turned", brewed(impl.RunHouse{}, other...), slices.Equal(other, jobs))
	}
}

// maltByDefinition and openByDefinition read the chapter a second time.
func maltByDefinition(w impl.MaltWorld) bool {
	if !worldByDefinition(w.Ctl) || !houseByDefinition(w.House) || len(w.Jobs) > 8 {
		return false
	}
	caps := map[string]int{}
	for _, x := range w.Ctl.Plant.Places {
		caps[x.Name] = x.Cap
	}
	for _, thing := range w.House.Share.Things {
		if caps[thing] == 0 {
			return false
		}
	}
	for i, j := range w.Jobs {
		isAhead := i > 0 && w.Jobs[i-1].Batch >= j.Batch
		if isAhead || !nameByDefinition(j.Batch) || !nameByDefinition(j.At) || j.Number < 1 || j.Number > 1000000 || caps[j.Place] == 0 || j.Amount < 1 || j.Amount > 1000 {
			return false
		}
	}
	return true
}

// founding is what a world may be made of.
type founding struct {
	Plant  impl.Plant
	Fills  []impl.CtlFill
	Things []string
}

func openByDefinition(f founding) (impl.MaltWorld, bool) {
	ctl, ok := newByDefinition(f.Plant, f.Fills)
	if !ok || len(f.Things) > 8 {
		return impl.MaltWorld{}, false
	}
	for i, thing := range f.Things {
		at := slices.IndexFunc(f.Plant.Places, func(x impl.PlantPlace) bool { return x.Name == thing })
		if at < 0 || f.Plant.Places[at].Cap == 0 || i > 0 && thing <= f.Things[i-1] {
			return impl.MaltWorld{}, false
		}
	}
	return impl.MaltWorld{Ctl: ctl, House: impl.RunHouse{Share: impl.ShareBook{Things: f.Things}}}, true
}

func checkFounded(t *testing.T, what string, f founding, want impl.MaltWorld, ok bool) {
	t.Helper()
	if w, is := impl.MaltOpen(f.Plant, f.Fills, f.Things); is != ok || !sameMalt(w, want) {
		t.Errorf("%s: MaltOpen of %+v = %+v, %v; want %+v, %v", what, f, w, is, want, ok)
	}
}

// checkFoundedByReading asks for promise 60, too.
func checkFoundedByReading(t *testing.T, what string, f founding) bool {
	t.Helper()
	want, ok := openByDefinition(f)
	checkFounded(t, what, f, want, ok)
	_, isWorld := impl.CtlNew(f.Plant, f.Fills)
	_, isHouse := impl.RunOpen(f.Things)
	areVessels := !slices.ContainsFunc(f.Things, func(thing string) bool {
		return !slices.ContainsFunc(f.Plant.Places, func(x impl.PlantPlace) bool { return x.Name == thing && x.Cap > 0 })
	})
	if ok != (isWorld && isHouse && areVessels) {
		t.Errorf("%s: MaltOpen of %+v is %v, of CtlNew %v, RunOpen %v, vessels %v", what, f, ok, isWorld, isHouse, areVessels)
	}
	if ok {
		checkMalt(t, what, want, true)
	}
	return ok
}

func TestWorldsThatOpen(t *testing.T) {
	p, fills := brewery(), breweryFills()
	for _, things := range []string{"", "keg", "tun", "keg tun", "malt", "lye malt", "jar keg lye malt tun"} {
		want := impl.MaltWorld{Ctl: begun(p, fills...), House: impl.RunHouse{Share: impl.ShareBook{Things: strings.Fields(things)}}}
		checkFounded(t, things, founding{p, fills, strings.Fields(things)}, want, true)
		want.Ctl = begun(p)
		checkFounded(t, things+", without fills", founding{p, nil, strings.Fields(things)}, want, true)
		checkMalt(t, things, want, true)
	}
	checkFounded(t, "nothing", founding{}, impl.MaltWorld{Ctl: impl.CtlWorld{Up: true}}, true)
	checkFounded(t, "empty lists", founding{impl.Plant{}, []impl.CtlFill{}, []string{}}, impl.MaltWorld{Ctl: impl.CtlWorld{Up: true}}, true)
}

func TestWorldsThatDoNotOpen(t *testing.T) {
	p, fills := brewery(), breweryFills()
	for what, things := range map[string][]string{
		"a joint": {"j"}, "a joint among others": {"j", "keg"}, "a joint at the end": {"jar", "k"}, "a valve": {"a"}, "a station": {"west"}, "a lot": {"m1"}, "none of the plant": {"keg", "pan"},
		"none of the plant ahead": {"can", "keg"}, "no name": {""}, "no name among others": {"", "keg"}, "a great letter": {"KEG"}, "longer": {"kegs"}, "shorter": {"ke"},
		"backwards": {"tun", "keg"}, "backwards behind": {"jar", "tun", "keg"}, "twice": {"keg", "keg"}, "twice behind": {"jar", "tun", "tun"}, "nine": {"jar", "keg", "lye", "malt", "tun", "u", "v", "w", "x"},
	} {
		checkFounded(t, what, founding{p, fills, things}, impl.MaltWorld{}, false)
		checkFounded(t, what+", without fills", founding{p, nil, things}, impl.MaltWorld{}, false)
		checkFounded(t, what+", without a plant", founding{impl.Plant{}, nil, things}, impl.MaltWorld{}, false)
	}
	stuffs := written("stuff ale", "stuff keg", "vessel keg 9 e", "vessel vat 9 e")
	checkFounded(t, "a stuff", founding{stuffs, nil, []string{"ale"}}, impl.MaltWorld{}, false)
	checkFounded(t, "a stuff and a vessel", founding{stuffs, nil, []string{"ale", "keg"}}, impl.MaltWorld{}, false)
	checkFounded(t, "a vessel called as a stuff", founding{stuffs, nil, []string{"keg"}}, impl.MaltWorld{Ctl: begun(stuffs), House: houseAtFirst("keg")}, true)
	for i, p := range notValid() {
		checkFounded(t, "not valid "+strconv.Itoa(i), founding{p, nil, nil}, impl.MaltWorld{}, false)
		checkFounded(t, "not valid "+strconv.Itoa(i), founding{p, nil, []string{"tun"}}, impl.MaltWorld{}, false)
	}
	for _, f := range []impl.CtlFill{{}, fill("", "malt", "malt", 1), fill("m1", "ale", "malt", 1), fill("m1", "malt", "j", 1), fill("m1", "malt", "none", 1), fill("m1", "malt", "malt", 61), fill("m1", "malt", "malt", 0)} {
		checkFounded(t, "a fill with a code", founding{p, []impl.CtlFill{f}, []string{"keg", "tun"}}, impl.MaltWorld{}, false)
		checkFounded(t, "a fill with a code, no things", founding{p, []impl.CtlFill{f}, nil}, impl.MaltWorld{}, false)
	}
	checkFounded(t, "foes", founding{p, []impl.CtlFill{fill("m1", "malt", "tun", 1), fill("y1", "lye", "tun", 1)}, []string{"tun"}}, impl.MaltWorld{}, false)
	checkFounded(t, "too many stations", founding{manyStations(), nil, nil}, impl.MaltWorld{}, false)
}

// houseAtFirst is a house in which nothing has happened.
func houseAtFirst(things string) impl.RunHouse {
	return impl.RunHouse{Share: impl.ShareBook{Things: strings.Fields(things)}}
}

// As many vessels as there can be are as many things as there can be.
func TestWorldsThatOpenWithManyThings(t *testing.T) {
	for vessels := 1; vessels <= 14; vessels++ {
		var p impl.Plant
		for i, name := range numbered("v", vessels) {
			p.Places = append(p.Places, impl.PlantPlace{Name: name, Cap: 9, Station: "s" + strconv.Itoa(i%2)})
		}
		for things := range vessels + 2 {
			ok := vessels <= 8 && things <= vessels
			if is := checkFoundedByReading(t, "many", founding{p, nil, numbered("v", vessels+1)[:things]}); is != ok {
				t.Errorf("%d vessels and %d things: %v", vessels, things, is)
			}
		}
	}
}

// Promise 60.
func TestWorldsThatOpenByReading(t *testing.T) {
	counted := counts{}
	for _, f := range append(someFillings(), filling{brewery(), breweryFills()}) {
		eachList(append(namesOfPlaces(f.Plant), "ale", "none", ""), 2, func(things []string) {
			isOk := checkFoundedByReading(t, "some", founding{f.Plant, f.Fills, things})
			counted.note("true", isOk)
			counted.note("false", !isOk)
		})
	}
	checkCounted(t, counted, 30, "true", "false")
}

func TestWorldsToOpenOfWhichOneThingIsChanged(t *testing.T) {
	counted := counts{}
	for _, from := range []founding{{brewery(), breweryFills(), []string{"keg", "tun"}}, {tiny(), nil, []string{"a", "b"}}} {
		eachWithOneChange(from, textsOfAll(from), func(f founding) {
			isOk := checkFoundedByReading(t, "one thing", f)
			counted.note("true", isOk)
			counted.note("false", !isOk)
		})
	}
	checkCounted(t, counted, 200, "true", "false")
}

// Promise 60.
func TestWorldsThatOpenOfDrawnPlants(t *testing.T) {
	dice := rand.New(rand.NewSource(60))
	counted := counts{}
	for range 2000 {
		f := founding{Plant: somePlant(dice)}
		if dice.Intn(2) == 0 {
			f.Plant = plantOfAWorld(dice)
		}
		var vessels []string
		for _, x := range f.Plant.Places {
			if x.Cap > 0 {
				vessels = append(vessels, x.Name)
			}
		}
		f.Things = pick(choose(dice.Intn(3) == 0, namesOfPlaces(f.Plant), vessels), dice.Intn(1<<14)&dice.Intn(1<<14))
		for i := range dice.Intn(3) {
			place := oneOf(dice, f.Plant.Places, impl.PlantPlace{Name: "none"})
			f.Fills = append(f.Fills, fill("l"+strconv.Itoa(i), oneOf(dice, f.Plant.Stuffs, "none"), place.Name, 1+dice.Intn(max(1, place.Cap))))
		}
		isOk := checkFoundedByReading(t, "drawn", f)
		counted.note("true", isOk)
		counted.note("with things", isOk && len(f.Things) > 1)
		counted.note("false", !isOk)
	}
	checkCounted(t, counted, 100, "true", "with things", "false")
}

func TestWholeWorldsByReading(t *testing.T) {
	for what, w := range someMalts() {
		checkMalt(t, what, w, maltByDefinition(w))
	}
	for what, w := range spoiltMalts() {
		checkMalt(t, what, w, maltByDefinition(w))
	}
	// Each link with each house.
	counted := counts{}
	for _, ctl := range someWorlds() {
		for _, h := range someHouses() {
			w := impl.MaltWorld{Ctl: ctl, House: h}
			isOk := maltByDefinition(w)
			checkMalt(t, "each with each", w, isOk)
			counted.note("ok", isOk)
			counted.note("not", !isOk)
		}
	}
	checkCounted(t, counted, 50, "ok", "not")
}

// tinyMalt is the tiny plant's world with a batch that moves, and has asked for it.
func tinyMalt() impl.MaltWorld {
	b := batchAt(batchOf("n", recipe("p move x y 3 4 q saved", "q clean x . 0 2 good good"), "x=a y=b"), "p", 1)
	return impl.MaltWorld{Ctl: tinyWorld(), House: houseOf("a b", b), Jobs: jobsOf("n p 2 a 3")}
}

func TestWholeWorldsOfWhichOneThingIsChanged(t *testing.T) {
	counted := counts{}
	for what, from := range map[string]impl.MaltWorld{"tiny": tinyMalt(), "brewery": someMalts()["one has asked"]} {
		checkMalt(t, what, from, true)
		eachWithOneChange(from, []string{"", "a", "b", "j", "p", "tun", "w", "A"}, func(w impl.MaltWorld) {
			isOk := maltByDefinition(w)
			checkMalt(t, "one thing of "+what, w, isOk)
			counted.note("ok", isOk)
			counted.note("not", !isOk)
		})
	}
	checkCounted(t, counted, 300, "ok", "not")
}

func TestJobsOfWhichTwoThingsAreChanged(t *testing.T) {
	counted := counts{}
	w := brewed(houseOf("keg tun"))
	eachWithOneChange(jobsOf("b fill 1 malt 12", "c go 2 tun 1000"), []string{"", "a", "j", "keg", "zzzzzzzzz"}, func(jobs []impl.MaltJob) {
		eachWithOneChange(jobs, []string{"", "b", "j", "keg"}, func(jobs []impl.MaltJob) {
			w.Jobs = jobs
			isOk := maltByDefinition(w)
			checkMalt(t, "two things", w, isOk)
			counted.note("ok", isOk)
			counted.note("not", !isOk)
		})
	})
	checkCounted(t, counted, 200, "ok", "not")
}

func TestWholeWorldsAreNotWrittenInto(t *testing.T) {
	all := spoiltMalts()
	for what, w := range someMalts() {
		all[what] = w
	}
	for what, from := range all {
		w := withRoom(from)
		was := withWhatIsBehind(w)
		for range 2 {
			checkMalt(t, what, w, maltByDefinition(from))
		}
		if !reflect.DeepEqual(withWhatIsBehind(w), was) {
			t.Errorf("%s: the world became %+v", what, withWhatIsBehind(w))
		}
	}
}

func TestOpenedWorldsAreNewMemory(t *testing.T) {
	for _, things := range []string{"", "keg", "jar keg lye malt tun", "j"} {
		f := withRoom(founding{brewery(), breweryFills(), strings.Fields(things)})
		was := withWhatIsBehind(f)
		w, _ := impl.MaltOpen(f.Plant, f.Fills, f.Things)
		again, _ := impl.MaltOpen(f.Plant, f.Fills, f.Things)
		checkOwnMemory(t, things, w, f)
		checkOwnLists(t, things, w, f)
		checkOwnMemory(t, things+", again", again, w, f)
		checkOwnLists(t, things+", again", again, w, f)
		spoilTexts(w.House.Share.Things)
		spoilTexts(w.Ctl.Plant.Stuffs)
		checkFoundedByReading(t, "behind an answer that was written into", f)
		if !reflect.DeepEqual(withWhatIsBehind(f), was) {
			t.Errorf("%s: what was asked became %+v", things, withWhatIsBehind(f))
		}
	}
}

func TestWholeWorldsOfVeryLongLists(t *testing.T) {
	long := 200000
	name := strings.Repeat("b", 1<<20)
	from := someMalts()["one has asked"]
	for what, change := range map[string]func(w *impl.MaltWorld){
		"jobs":          func(w *impl.MaltWorld) { w.Jobs = slices.Repeat(w.Jobs, long) },
		"nobody's jobs": func(w *impl.MaltWorld) { w.Jobs = make([]impl.MaltJob, long) },
		"many jobs":     func(w *impl.MaltWorld) { w.Jobs = eightJobs(long) },
		"a batch":       func(w *impl.MaltWorld) { w.Jobs[0].Batch = name },
		"a phase":       func(w *impl.MaltWorld) { w.Jobs[0].At = name },
		"a place":       func(w *impl.MaltWorld) { w.Jobs[0].Place = name },
		"things":        func(w *impl.MaltWorld) { w.House.Share.Things = slices.Repeat(w.House.Share.Things, long) },
		"many things":   func(w *impl.MaltWorld) { w.House.Share.Things = numbered("t", long) },
		"batches":       func(w *impl.MaltWorld) { w.House.Batches = slices.Repeat(w.House.Batches, long) },
		"words":         func(w *impl.MaltWorld) { w.Ctl.Radio = make([]impl.CtlWord, long) },
		"meters":        func(w *impl.MaltWorld) { w.Ctl.Meters = make([]impl.CtlMeter, long) },
		"places":        func(w *impl.MaltWorld) { w.Ctl.Plant.Places = slices.Repeat(w.Ctl.Plant.Places, long/9) },
	} {
		w := otherMalt(from, change)
		checkMalt(t, what, w, false)
		if after := impl.MaltAct(w); !sameMalt(after, impl.MaltWorld{}) {
			t.Errorf("%s: MaltAct is not nothing", what)
		}
		if _, ok := impl.MaltWant(w, "b"); ok || impl.MaltMeter(w, 1, "malt") != 0 {
			t.Errorf("%s: something is told", what)
		}
	}
	if _, ok := impl.MaltWant(from, name); ok || impl.MaltMeter(from, 1, name) != 0 {
		t.Error("something is told of a long name")
	}
	for _, things := range [][]string{numbered("t", long), slices.Repeat([]string{"keg"}, long), {name}} {
		checkFounded(t, "long", founding{brewery(), breweryFills(), things}, impl.MaltWorld{}, false)
	}
}

// What one call was given must not be seen in the next one, nor in one beside it.
func TestWholeWorldsKeepNothing(t *testing.T) {
	all, not := someMalts(), spoiltMalts()
	var callers sync.WaitGroup
	for range 4 {
		callers.Go(func() {
			for what, w := range all {
				checkMalt(t, what, w, true)
				checkFoundedByReading(t, what, founding{w.Ctl.Plant, nil, w.House.Share.Things})
			}
			for what, w := range not {
				checkMalt(t, what, w, false)
			}
		})
	}
	callers.Wait()
}
