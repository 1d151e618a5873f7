package tests

import (
	"math/rand"
	"reflect"
	"slices"
	"strconv"
	"strings"
	"sync"
	"testing"

	"loop.example/malthouse/impl"
)

// sharing is written as things, and batches: "a keg! tun" is a batch called a that has the keg, and may yet need the tun.
func sharing(things string, batches ...string) impl.ShareBook {
	b := impl.ShareBook{Things: strings.Fields(things)}
	for _, text := range batches {
		fields := strings.Fields(text)
		one := impl.ShareBatch{Name: fields[0]}
		for _, field := range fields[1:] {
			thing, isHad := strings.CutSuffix(field, "!")
			one.Needs = append(one.Needs, thing)
			if isHad {
				one.Has = append(one.Has, thing)
			}
		}
		b.Batches = append(b.Batches, one)
	}
	return b
}

// smallShare leaves room for more in each list.
func smallShare() impl.ShareBook {
	return sharing("jar keg tun vat", "a keg! tun", "b tun! vat", "c jar keg vat")
}

// fullShare has as much of everything as may be.
func fullShare() impl.ShareBook {
	b := impl.ShareBook{Things: numbered("thing-", impl.ShareMaxThings)}
	for i, name := range numbered("batch-", impl.ShareMaxBatches) {
		has := b.Things[i : i+1]
		if i == impl.ShareMaxBatches-1 {
			has = b.Things[i:]
		}
		b.Batches = append(b.Batches, impl.ShareBatch{Name: name, Has: slices.Clone(has), Needs: slices.Clone(b.Things)})
	}
	return b
}

// allOfAll has one batch that has all there is, and others that need all of it.
func allOfAll() impl.ShareBook {
	things := strings.Join(numbered("t", impl.ShareMaxThings), " ")
	all := strings.ReplaceAll(things, " ", "! ") + "!"
	return sharing(things, "a "+things, "b "+things, "c "+all, "d "+things, "e "+things)
}

func someShares() map[string]impl.ShareBook {
	return map[string]impl.ShareBook{
		"empty":                 {},
		"empty lists":           {Things: []string{}, Batches: []impl.ShareBatch{}},
		"empty lists within":    {Things: []string{"t"}, Batches: []impl.ShareBatch{{Name: "a", Has: []string{}, Needs: []string{}}}},
		"things alone":          sharing("keg tun"),
		"as many as there can":  {Things: numbered("t", impl.ShareMaxThings)},
		"batches alone":         sharing("", "a", "b", "c", "d", "e"),
		"small":                 smallShare(),
		"full":                  fullShare(),
		"all of all":            allOfAll(),
		"needs nothing":         sharing("keg", "a"),
		"needs and has nothing": sharing("keg tun", "a keg tun"),
		"has all it needs":      sharing("keg tun vat", "a keg! vat!"),
		"has the first":         sharing("keg tun", "a keg! tun"),
		"has the last":          sharing("keg tun", "a keg tun!"),
		"one name for all":      sharing("a b", "a a! b", "b a b!"),
		"things go back":        sharing("keg tun", "a tun!", "b keg!"),
		"all need one":          sharing("keg", "a keg", "b keg", "c keg!", "d keg", "e keg"),
		"a ring of two":         sharing("keg tun", "a keg! tun", "b keg tun!"),
		"a ring of five":        sharing("p q r s t", "a p! q", "b q! r", "c r! s", "d s! t", "e p t!"),
		"a ring and others":     sharing("p q r s", "a p", "b q! r", "c q r!", "d s!", "e s"),
		"a row":                 sharing("p q r s t", "a p! q", "b q! r", "c r! s", "d s! t", "e t!"),
		"a row back":            sharing("p q r s t", "a p!", "b p q!", "c q r!", "d r s!", "e s t!"),
	}
}

func checkShare(t *testing.T, what string, b impl.ShareBook, want bool) {
	t.Helper()
	if got := impl.ShareBookOk(b); got != want {
		t.Errorf("%s: ShareBookOk = %v; want %v: %+v", what, got, want, b)
	}
}

func checkWho(t *testing.T, what string, b impl.ShareBook, thing, want string) {
	t.Helper()
	if got := impl.ShareWho(b, thing); got != want {
		t.Errorf("%s: %q has %q; want %q: %+v", what, got, thing, want, b)
	}
}

// spoiltShares is books that are not ok, each in a way of its own.
func spoiltShares() []impl.ShareBook {
	var all []impl.ShareBook
	for _, f := range []func(b *impl.ShareBook){
		func(b *impl.ShareBook) { b.Things = nil },
		func(b *impl.ShareBook) { b.Things = b.Things[:3] },
		func(b *impl.ShareBook) { b.Things = b.Things[1:] },
		func(b *impl.ShareBook) { b.Things = append(b.Things, "vat") },
		func(b *impl.ShareBook) { b.Things = append(b.Things, "Vat") },
		func(b *impl.ShareBook) { b.Things = append(b.Things, numbered("w", 5)...) },
		func(b *impl.ShareBook) { b.Things[0], b.Things[1] = "keg", "jar" },
		func(b *impl.ShareBook) { b.Things = slices.Insert(b.Things, 0, "") },
		func(b *impl.ShareBook) { b.Batches[0].Name = "" },
		func(b *impl.ShareBook) { b.Batches[0].Name = "A" },
		func(b *impl.ShareBook) { b.Batches[0].Name = "z" },
		func(b *impl.ShareBook) { b.Batches[1].Name = "a" },
		func(b *impl.ShareBook) { b.Batches[2].Name = "c23456789" },
		func(b *impl.ShareBook) { b.Batches = append(b.Batches, sharing("", "d", "e", "f").Batches...) },
		func(b *impl.ShareBook) { b.Batches[0].Has = []string{"vat"} },
		func(b *impl.ShareBook) { b.Batches[0].Has = []string{"keg", "vat"} },
		func(b *impl.ShareBook) { b.Batches[0].Has = []string{"keg", "keg"} },
		func(b *impl.ShareBook) { b.Batches[0].Has = []string{"none"} },
		func(b *impl.ShareBook) { b.Batches[0].Has = []string{""} },
		func(b *impl.ShareBook) { b.Batches[0].Needs = nil },
		func(b *impl.ShareBook) { b.Batches[0].Needs = []string{"tun", "keg"} },
		func(b *impl.ShareBook) { b.Batches[1].Needs = []string{"tun", "tun", "vat"} },
		func(b *impl.ShareBook) { b.Batches[1].Needs = []string{"tun", "zoo"} },
		func(b *impl.ShareBook) { b.Batches[2].Needs = []string{"", "jar"} },
		func(b *impl.ShareBook) { b.Batches[2].Has = []string{"keg"} },
		func(b *impl.ShareBook) { b.Batches[0].Has = []string{"keg", "tun"} },
		func(b *impl.ShareBook) { b.Batches[2].Has = []string{"jar", "keg", "vat"} },
	} {
		b := smallShare()
		f(&b)
		all = append(all, b)
	}
	return all
}

func TestShareBooksThatAreOk(t *testing.T) {
	for what, b := range someShares() {
		checkShare(t, what, b, true)
	}
}

func TestShareBooksThatAreNot(t *testing.T) {
	for i, b := range spoiltShares() {
		checkShare(t, strconv.Itoa(i), b, false)
	}
}

func TestShareBookOfOneTooMany(t *testing.T) {
	if impl.ShareMaxName != 8 || impl.ShareMaxThings != 8 || impl.ShareMaxBatches != 5 {
		t.Error("the limits are not the document's")
	}
	for many := range 12 {
		checkShare(t, "things", impl.ShareBook{Things: numbered("t", many)}, many <= 8)
		b := impl.ShareBook{Things: []string{"t"}}
		for i, name := range numbered("b", many) {
			b.Batches = append(b.Batches, impl.ShareBatch{Name: name, Needs: pick([]string{"t"}, i)})
		}
		checkShare(t, "batches", b, many <= 5)
	}
	b := fullShare()
	b.Things = append(b.Things, "z")
	checkShare(t, "one thing too many", b, false)
	b.Batches, b.Things = nil, b.Things[1:]
	checkShare(t, "that one, without the first", b, true)
	b = fullShare()
	b.Batches = append(b.Batches, impl.ShareBatch{Name: "z"})
	checkShare(t, "one batch too many", b, false)
	b.Batches = b.Batches[1:]
	checkShare(t, "that one, without the first", b, true)
}

// checkShareOrder tells that a list of a book is asked to ascend: no two of it may change places, nor be the same.
func checkShareOrder[T any](t *testing.T, what string, b impl.ShareBook, list func(b *impl.ShareBook) *[]T) {
	t.Helper()
	if checkShare(t, what, b, true); len(*list(&b)) < 2 {
		t.Errorf("%s: too few to be out of order", what)
	}
	for i, wrong := range swapped(*list(&b)) {
		changed := copied(b)
		*list(&changed) = wrong
		checkShare(t, what+" "+strconv.Itoa(i), changed, false)
	}
}

func TestShareBooksOutOfOrder(t *testing.T) {
	for what, b := range map[string]impl.ShareBook{"small": smallShare(), "full": fullShare()} {
		checkShareOrder(t, what+" things", b, func(b *impl.ShareBook) *[]string { return &b.Things })
		checkShareOrder(t, what+" batches", b, func(b *impl.ShareBook) *[]impl.ShareBatch { return &b.Batches })
		for at := range b.Batches {
			checkShareOrder(t, what+" needs", b, func(b *impl.ShareBook) *[]string { return &b.Batches[at].Needs })
		}
		// Without batches nothing but the order is wrong.
		b.Batches = nil
		checkShareOrder(t, what+" things alone", b, func(b *impl.ShareBook) *[]string { return &b.Things })
	}
	for at := range 3 {
		b := sharing("p q r s", "a", "b", "c")
		b.Batches[at].Needs = strings.Fields("p q r s")
		checkShareOrder(t, "needs alone", b, func(b *impl.ShareBook) *[]string { return &b.Batches[at].Needs })
		b.Batches[at].Has = strings.Fields("p q s")
		checkShareOrder(t, "has", b, func(b *impl.ShareBook) *[]string { return &b.Batches[at].Has })
	}
	checkShareOrder(t, "batches alone", sharing("", "a", "b", "c"), func(b *impl.ShareBook) *[]impl.ShareBatch { return &b.Batches })
	checkShare(t, "one name twice, all else differs", sharing("p q", "a p!", "a q!"), false)
	checkShare(t, "one name twice, with another between", sharing("p q", "a p!", "b", "a q!"), false)
}

func TestOrderOfNamesInShareBooks(t *testing.T) {
	names := []string{"-", "--", "0", "9", "a", "a-", "a0", "aa"}
	for i, a := range names {
		for j, b := range names {
			what := a + " " + b
			checkShare(t, "things "+what, impl.ShareBook{Things: []string{a, b}}, i < j)
			checkShare(t, "batches "+what, sharing("", a, b), i < j)
			checkShare(t, "needs "+what, impl.ShareBook{Things: names, Batches: []impl.ShareBatch{{Name: "m", Needs: []string{a, b}}}}, i < j)
			checkShare(t, "has "+what, impl.ShareBook{Things: names, Batches: []impl.ShareBatch{{Name: "m", Has: []string{a, b}, Needs: names}}}, i < j)
		}
	}
}

// namedInShares is books in which a text stands where a name is asked for, and nothing else is wrong.
func namedInShares(text string) map[string]impl.ShareBook {
	one := []string{text}
	all := map[string]impl.ShareBook{
		"thing":             {Things: one},
		"thing that is met": {Things: one, Batches: []impl.ShareBatch{{Name: "a", Needs: one}}},
		"thing that is had": {Things: one, Batches: []impl.ShareBatch{{Name: "a", Has: one, Needs: one}}},
		"batch":             {Batches: []impl.ShareBatch{{Name: text}}},
		"batch that has":    {Things: []string{"t"}, Batches: []impl.ShareBatch{{Name: text, Has: []string{"t"}, Needs: []string{"t"}}}},
	}
	// What stands behind another one is the later one.
	if text > "-" {
		all["second thing"] = impl.ShareBook{Things: []string{"-", text}}
		all["second batch"] = impl.ShareBook{Batches: []impl.ShareBatch{{Name: "-"}, {Name: text}}}
	}
	return all
}

func TestNamesInShareBooks(t *testing.T) {
	eachText(func(text string, isName bool) {
		for what, b := range namedInShares(text) {
			checkShare(t, what+" "+strconv.Quote(text), b, isName)
		}
	})
}

// What is needed is of what there is, and what is had is of what is needed.
func TestWhatIsNeededAndHad(t *testing.T) {
	lists := []string{"", "p", "q", "r", "p q", "p r", "q r", "p q r"}
	isWithin := func(these, those string) bool {
		return !strings.ContainsFunc(these, func(r rune) bool { return !strings.ContainsRune(those+" ", r) })
	}
	for _, things := range lists {
		for _, needs := range lists {
			for _, has := range lists {
				b := impl.ShareBook{Things: strings.Fields(things), Batches: []impl.ShareBatch{{Name: "a", Has: strings.Fields(has), Needs: strings.Fields(needs)}}}
				want := isWithin(needs, things) && isWithin(has, needs)
				checkShare(t, "alone", b, want)
				b.Batches = append(b.Batches, impl.ShareBatch{Name: "b"})
				checkShare(t, "with another one", b, want)
				b.Batches[0].Name, b.Batches[1].Name = "b", "a"
				slices.Reverse(b.Batches)
				checkShare(t, "behind another one", b, want)
			}
		}
	}
	// Another one's needs do not help.
	b := sharing("p q", "a p", "b p q")
	b.Batches[0].Has = []string{"q"}
	checkShare(t, "another one needs it", b, false)
	b.Batches[0].Needs = []string{"p", "q"}
	checkShare(t, "it needs it, too", b, true)
}

func TestWhatTwoHave(t *testing.T) {
	things := numbered("t", 8)
	for many := 2; many <= 5; many++ {
		for i := range many {
			for j := range many {
				for _, thing := range things {
					b := impl.ShareBook{Things: things}
					for _, name := range numbered("b", many) {
						b.Batches = append(b.Batches, impl.ShareBatch{Name: name, Needs: things})
					}
					b.Batches[i].Has, b.Batches[j].Has = []string{thing}, []string{thing}
					checkShare(t, "two have "+thing, b, i == j)
					checkWho(t, "two have "+thing, b, thing, choose(i == j, b.Batches[i].Name, ""))
				}
			}
		}
	}
	checkShare(t, "the last of one is the first of another one", sharing("p q r", "a p! q!", "b q! r!"), false)
	checkShare(t, "the first of one is the last of another one", sharing("p q r", "a q! r!", "b p! q!"), false)
	checkShare(t, "three have it", sharing("p", "a p!", "b p!", "c p!"), false)
	checkShare(t, "all have something else", sharing("p q r", "a p! q r", "b p q! r", "c p q r!"), true)
}

func TestWhoHasAThing(t *testing.T) {
	for what, b := range someShares() {
		var had []string
		for _, one := range b.Batches {
			for _, thing := range one.Has {
				checkWho(t, what, b, thing, one.Name)
				had = append(had, thing)
			}
		}
		for _, text := range append(slices.Clone(b.Things), "", "none", "z", "a", "Keg", "keg ", " keg", "keg\x00", "ke", "kegs", "!", strings.Repeat("keg", 100000)) {
			if !slices.Contains(had, text) {
				checkWho(t, what, b, text, "")
			}
		}
	}
	b := smallShare()
	checkWho(t, "small", b, "keg", "a")
	checkWho(t, "small", b, "tun", "b")
	checkWho(t, "nobody has it", b, "vat", "")
	checkWho(t, "nobody has it", b, "jar", "")
	checkWho(t, "a batch is no thing", b, "a", "")
	// A batch that is called like a thing, and has it or another one.
	checkWho(t, "called so", sharing("a b", "a b!", "b a!"), "a", "b")
	checkWho(t, "called so", sharing("a b", "a b!", "b a!"), "b", "a")
	checkWho(t, "called so", sharing("a b", "a a!", "b b!"), "a", "a")
}

func TestWhoHasAThingOfWhatIsNotOk(t *testing.T) {
	for i, b := range spoiltShares() {
		for _, thing := range []string{"jar", "keg", "tun", "vat", "none", ""} {
			checkWho(t, strconv.Itoa(i), b, thing, "")
		}
	}
}

// shareByDefinition reads the chapter a second time.
func shareByDefinition(b impl.ShareBook) bool {
	var names, had []string
	for _, one := range b.Batches {
		names = append(names, one.Name)
		had = append(had, one.Has...)
		for _, thing := range one.Needs {
			if !slices.Contains(b.Things, thing) {
				return false
			}
		}
		for _, thing := range one.Has {
			if !slices.Contains(one.Needs, thing) {
				return false
			}
		}
		if !ascendingNames(one.Needs, 8) || !ascendingNames(one.Has, 8) {
			return false
		}
	}
	// What two have stands there twice.
	slices.Sort(had)
	return ascendingNames(b.Things, 8) && ascendingNames(names, 5) && ascendingNames(had, 8)
}

func whoByDefinition(b impl.ShareBook, thing string) string {
	if shareByDefinition(b) {
		for _, one := range b.Batches {
			if slices.Contains(one.Has, thing) {
				return one.Name
			}
		}
	}
	return ""
}

func checkShareByReading(t *testing.T, what string, b impl.ShareBook) bool {
	t.Helper()
	want := shareByDefinition(b)
	checkShare(t, what, b, want)
	for _, thing := range append(textsIn(b), "", "none") {
		checkWho(t, what, b, thing, whoByDefinition(b, thing))
	}
	return want
}

// checkHadOnce is the second half of promise 44: what is had is had by one, who needs it.
func checkHadOnce(t *testing.T, b impl.ShareBook) {
	t.Helper()
	for _, thing := range b.Things {
		var who []string
		for _, one := range b.Batches {
			if slices.Contains(one.Has, thing) {
				who = append(who, one.Name)
				if !slices.Contains(one.Needs, thing) {
					t.Errorf("%q has %q, and does not need it: %+v", one.Name, thing, b)
				}
			}
		}
		if len(who) > 1 || strings.Join(who, " ") != impl.ShareWho(b, thing) {
			t.Errorf("%q have %q: %+v", who, thing, b)
		}
	}
}

func TestAllShortShareBooks(t *testing.T) {
	var some []impl.ShareBatch
	for _, name := range []string{"a", "b", "B"} {
		eachOf([]string{"p", "q"}, 2, func(needs []string) {
			eachOf([]string{"p", "q"}, 2, func(has []string) {
				some = append(some, impl.ShareBatch{Name: name, Has: has, Needs: needs})
			})
		})
	}
	for _, things := range [][]string{{"p", "q"}, {"q"}, {"q", "p"}} {
		ok := 0
		eachOf(some, 2, func(batches []impl.ShareBatch) {
			b := impl.ShareBook{Things: things, Batches: batches}
			if checkShareByReading(t, "short", b) {
				checkHadOnce(t, b)
				ok++
			}
		})
		if len(things) == 2 && (ok > 0) != slices.IsSorted(things) {
			t.Errorf("%d are ok with %q", ok, things)
		}
	}
	eachOf([]string{"p", "q", "Q", ""}, 3, func(things []string) {
		checkShareByReading(t, "things", impl.ShareBook{Things: things})
		checkShareByReading(t, "needs", impl.ShareBook{Things: []string{"p", "q"}, Batches: []impl.ShareBatch{{Name: "a", Needs: things}}})
		checkShareByReading(t, "has", impl.ShareBook{Things: []string{"p", "q"}, Batches: []impl.ShareBatch{{Name: "a", Has: things, Needs: []string{"p", "q"}}}})
	})
}

func TestShareBooksOfWhichOneThingIsChanged(t *testing.T) {
	for what, from := range someShares() {
		eachWithOneChange(from, textsOfAll(from), func(b impl.ShareBook) {
			if checkShareByReading(t, what, b) {
				checkHadOnce(t, b)
			}
		})
	}
}

func TestShareBooksOfWhichTwoThingsAreChanged(t *testing.T) {
	ok, not := 0, 0
	for what, from := range map[string]impl.ShareBook{"two": sharing("p q", "a p! q", "b q!"), "three": sharing("p q r", "a p", "b r!", "c p! q")} {
		texts := textsOfAll(from)
		eachWithOneChange(from, texts, func(b impl.ShareBook) {
			eachWithOneChange(b, texts, func(b impl.ShareBook) {
				if checkShareByReading(t, what, b) {
					checkHadOnce(t, b)
					ok++
				} else {
					not++
				}
			})
		})
	}
	if ok < 1000 || not < 10000 {
		t.Errorf("%d are ok, %d not", ok, not)
	}
}

// drawnShare draws a book that is ok, in which of ten things that are needed so many are had, if they can be.
func drawnShare(dice *rand.Rand, had int) impl.ShareBook {
	b := impl.ShareBook{Things: numbered("t", dice.Intn(9))}
	for _, name := range numbered("b", dice.Intn(6)) {
		b.Batches = append(b.Batches, impl.ShareBatch{Name: name})
	}
	for _, thing := range b.Things {
		var who []int
		for i := range b.Batches {
			if dice.Intn(5) < 2 {
				b.Batches[i].Needs = append(b.Batches[i].Needs, thing)
				who = append(who, i)
			}
		}
		if len(who) > 0 && dice.Intn(10) < had {
			one := &b.Batches[who[dice.Intn(len(who))]]
			one.Has = append(one.Has, thing)
		}
	}
	return b
}

func TestDrawnShareBooks(t *testing.T) {
	dice := rand.New(rand.NewSource(51))
	for range 3000 {
		b := drawnShare(dice, dice.Intn(11))
		if !checkShareByReading(t, "drawn", b) {
			t.Errorf("it is not ok: %+v", b)
		}
		checkHadOnce(t, b)
		// One thing more that somebody has may be of nobody's needs, of another one's, or out of order.
		if len(b.Batches) > 0 && len(b.Things) > 0 {
			one := &b.Batches[dice.Intn(len(b.Batches))]
			one.Has = slices.Insert(slices.Clone(one.Has), dice.Intn(len(one.Has)+1), b.Things[dice.Intn(len(b.Things))])
			checkShareByReading(t, "drawn and changed", b)
		}
	}
}

func TestShareBooksAreNotWrittenInto(t *testing.T) {
	all := spoiltShares()
	for _, b := range someShares() {
		all = append(all, b)
	}
	for i, from := range all {
		b := withRoom(from)
		was := withWhatIsBehind(b)
		want := shareByDefinition(from)
		checkShare(t, strconv.Itoa(i), b, want)
		checkShare(t, "a second time", b, want)
		for _, thing := range append(slices.Clone(from.Things), "behind", "") {
			checkWho(t, strconv.Itoa(i), b, thing, whoByDefinition(from, thing))
		}
		if !reflect.DeepEqual(withWhatIsBehind(b), was) {
			t.Errorf("%d: the book became %+v", i, withWhatIsBehind(b))
		}
	}
}

func TestWhoHasAThingIsNewMemory(t *testing.T) {
	for what, b := range someShares() {
		for i := range b.Batches {
			b.Batches[i].Name = strings.Clone(b.Batches[i].Name)
		}
		for _, thing := range b.Things {
			first, second := impl.ShareWho(b, thing), impl.ShareWho(b, thing)
			checkOwnMemory(t, what, []string{first, second}, b, thing)
		}
	}
}

func TestShareBookOfVeryLongLists(t *testing.T) {
	long := 100000
	var names []string
	var batches []impl.ShareBatch
	for i := range long {
		names = append(names, strconv.Itoa(1000000+i))
		batches = append(batches, impl.ShareBatch{Name: names[i], Needs: names[:i%9]})
	}
	for what, b := range map[string]impl.ShareBook{
		"things":                 {Things: names},
		"things without names":   {Things: make([]string, long)},
		"batches":                {Things: names[:8], Batches: batches},
		"batches of nothing":     {Batches: make([]impl.ShareBatch, long)},
		"needs":                  {Things: names[:8], Batches: []impl.ShareBatch{{Name: "a", Needs: names}}},
		"needs of many":          {Things: names, Batches: []impl.ShareBatch{{Name: "a", Needs: names}}},
		"has":                    {Things: names[:8], Batches: []impl.ShareBatch{{Name: "a", Has: names, Needs: names[:8]}}},
		"has of many":            {Things: names, Batches: []impl.ShareBatch{{Name: "a", Has: names, Needs: names}}},
		"one thing":              {Things: slices.Repeat([]string{"t"}, long)},
		"one need":               {Things: []string{"t"}, Batches: []impl.ShareBatch{{Name: "a", Needs: slices.Repeat([]string{"t"}, long)}}},
		"a name that is so long": {Things: []string{strings.Repeat("t", 1<<20)}},
		"a batch so called":      {Batches: []impl.ShareBatch{{Name: strings.Repeat("b", 1<<20)}}},
		"all":                    {Things: names, Batches: batches},
	} {
		checkShare(t, what, b, false)
		checkWho(t, what, b, "1000000", "")
	}
}

// What one call was given must not be seen in the next one, nor in one beside it.
func TestShareBooksKeepNothing(t *testing.T) {
	all, wrong := someShares(), spoiltShares()
	var callers sync.WaitGroup
	for range 8 {
		callers.Go(func() {
			i := 0
			for what, b := range all {
				checkShare(t, what, b, true)
				checkShare(t, "wrong", wrong[i%len(wrong)], false)
				for _, thing := range []string{"keg", "tun", "p", "t", "none"} {
					checkWho(t, what, b, thing, whoByDefinition(b, thing))
					checkWho(t, "wrong", wrong[(i+7)%len(wrong)], thing, "")
				}
				i += 3
			}
		})
	}
	callers.Wait()
}
