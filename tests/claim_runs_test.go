package tests

import (
	"fmt"
	"maps"
	"math/rand"
	"reflect"
	"slices"
	"strings"
	"testing"

	"loop.example/malthouse/impl"
)

// claimRun is a book to which grants, stops and overs have led, with what is really in its places but for what is still being moved.
type claimRun struct {
	book   impl.ClaimBook
	really map[string]int
	// never has the numbers that must not be granted any more.
	never map[int]bool
}

// beginRun is a run in which nothing has happened: of each place it is known what is in it.
func beginRun(b impl.ClaimBook) claimRun {
	r := claimRun{book: b, really: map[string]int{}, never: map[int]bool{}}
	for _, s := range b.Spots {
		r.really[s.Name] = s.Least
	}
	return r
}

func (r claimRun) copied() claimRun {
	return claimRun{book: copied(r.book), really: maps.Clone(r.really), never: maps.Clone(r.never)}
}

// useOf is what a part does with a place; by no part nothing is moved.
func useOf(b impl.ClaimBook, place string) (u impl.ClaimUse, isUsed bool) {
	for _, p := range b.Parts {
		for _, u := range p.Want.Uses {
			if u.Name == place {
				return u, true
			}
		}
	}
	return impl.ClaimUse{}, false
}

// checkBetween is promise 17: whatever was moved meanwhile of what is granted, what is really in a place is between Least and Most.
func checkBetween(t *testing.T, r claimRun) {
	t.Helper()
	for _, s := range r.book.Spots {
		u, isUsed := useOf(r.book, s.Name)
		for moved := range u.Amount + 1 {
			is := r.really[s.Name] + choose(u.Role == impl.ClaimFrom, -moved, moved)
			if is < s.Least || is > s.Most || is > s.Cap {
				t.Errorf("%d is in %+v: %+v", is, s, r.book)
			}
		}
		if is := r.really[s.Name]; !isUsed && (s.Least != is || s.Most != is) {
			t.Errorf("nobody uses %+v, in which %d is: %+v", s, is, r.book)
		}
	}
}

// checkOpen is promise 21.
func checkOpen(t *testing.T, b impl.ClaimBook) {
	t.Helper()
	for _, valve := range append(slices.Clone(b.Valves), "none") {
		var under, halted []int
		for _, p := range b.Parts {
			if slices.Contains(p.Want.Opens, valve) && p.Stopped {
				halted = append(halted, p.Want.Number)
			} else if slices.Contains(p.Want.Opens, valve) {
				under = append(under, p.Want.Number)
			}
		}
		may, shut := impl.ClaimMay(b, valve), impl.ClaimShut(b, valve)
		if len(under) > 1 || len(under) == 1 && may != under[0] || len(under) == 0 && may != 0 || may > 0 && len(shut) > 0 || slices.Contains(halted, may) {
			t.Errorf("%s may be open under %d, and is kept shut under %d; those who open it: %d, stopped: %d: %+v", valve, may, shut, under, halted, b)
		}
	}
}

// checkRun is all that is promised of each book to which a run has led.
func checkRun(t *testing.T, r claimRun) {
	t.Helper()
	if !impl.ClaimBookOk(r.book) || !claimsByDefinition(r.book) {
		t.Errorf("not ok: %+v", r.book)
	}
	checkOnceAndNeverMet(t, r.book)
	checkBetween(t, r)
	checkOpen(t, r.book)
}

// butForSeenAndMay is a book without the two that a want may change for good.
func butForSeenAndMay(b impl.ClaimBook) impl.ClaimBook {
	b = copied(b)
	b.Seen = 0
	for i := range b.Spots {
		b.Spots[i].May = nil
	}
	return b
}

// checkInVain is promise 19 of a want that was just granted, and is over without anything moved.
func checkInVain(t *testing.T, before, after impl.ClaimBook, number int) {
	t.Helper()
	for _, done := range []bool{false, true} {
		halted, _ := impl.ClaimStop(after, number)
		behind, code := impl.ClaimOver(halted, number, 0, done)
		if code != 0 || !reflect.DeepEqual(butForSeenAndMay(behind), butForSeenAndMay(before)) {
			t.Errorf("%d, %+v; ahead of want %d there was %+v", code, behind, number, before)
		}
	}
}

// grant is one step of a run, with promises 18 and 19.
func (r claimRun) grant(t *testing.T, w impl.ClaimWant) (claimRun, int) {
	t.Helper()
	had := slices.ContainsFunc(r.book.Parts, func(p impl.ClaimPart) bool { return p.Want.Number == w.Number })
	can, next := impl.ClaimCode(r.book, w), r.copied()
	after, code := impl.ClaimGrant(r.book, w)
	if want, is := grantByDefinition(r.book, w); code != is || code != can || !sameClaims(after, want) {
		t.Errorf("%+v: %d and %d, %+v; want %d, %+v", w, can, code, after, is, want)
	}
	if code == 0 && r.never[w.Number] {
		t.Errorf("%+v is granted, and was refused or is over: %+v", w, r.book)
	}
	if code == 0 && !had {
		checkInVain(t, r.book, after, w.Number)
	}
	next.never[w.Number] = next.never[w.Number] || code >= 5
	next.book = after
	checkRun(t, next)
	return next, code
}

func (r claimRun) stop(t *testing.T, number int) (claimRun, int) {
	t.Helper()
	next := r.copied()
	after, code := impl.ClaimStop(r.book, number)
	if want, is := stopByDefinition(r.book, number); code != is || !sameClaims(after, want) {
		t.Errorf("%d is stopped: %d, %+v; want %d, %+v", number, code, after, is, want)
	}
	next.book = after
	checkRun(t, next)
	return next, code
}

// checkOnlyItsPlaces is promise 20.
func checkOnlyItsPlaces(t *testing.T, before, after impl.ClaimBook, w impl.ClaimWant, done bool) {
	t.Helper()
	for i, s := range before.Spots {
		is := after.Spots[i]
		isUsed := slices.ContainsFunc(w.Uses, func(u impl.ClaimUse) bool { return u.Name == s.Name })
		if !isUsed && !reflect.DeepEqual(copied(is), copied(s)) {
			t.Errorf("%+v is not used, and became %+v by %+v", s, is, w)
		}
		less := slices.ContainsFunc(s.May, func(stuff string) bool { return !slices.Contains(is.May, stuff) })
		if less && !(isUsed && done && w.Kind == impl.ClaimClean) {
			t.Errorf("%+v is not cleaned, and became %+v by %+v", s, is, w)
		}
		if is.Most-is.Least > s.Most-s.Least {
			t.Errorf("%+v became %+v by %+v", s, is, w)
		}
	}
}

// over is one step of a run, with promise 20.
func (r claimRun) over(t *testing.T, number, moved int, done bool) (claimRun, int) {
	t.Helper()
	next := r.copied()
	after, code := impl.ClaimOver(r.book, number, moved, done)
	if want, is := overByDefinition(r.book, number, moved, done); code != is || !sameClaims(after, want) {
		t.Errorf("%d is over, %d moved: %d, %+v; want %d, %+v", number, moved, code, after, is, want)
	}
	next.book = after
	if code == 0 {
		at := slices.IndexFunc(r.book.Parts, func(p impl.ClaimPart) bool { return p.Want.Number == number })
		w := r.book.Parts[at].Want
		next.never[number] = true
		for _, u := range w.Uses {
			next.really[u.Name] += []int{0, -moved, moved, 0}[u.Role]
		}
		checkOnlyItsPlaces(t, r.book, after, w, done)
	}
	checkRun(t, next)
	return next, code
}

// smallStation has two vessels, one of them empty, and a joint.
func smallStation() impl.ClaimBook {
	return impl.ClaimBook{
		Foes:   claimFoes("a/b"),
		Spots:  []impl.ClaimSpot{spot("j", 0, 0, 0, ""), spot("p", 2, 2, 2, "a"), spot("q", 2, 0, 0, "")},
		Valves: []string{"u", "v"},
	}
}

// wantsOfSmallStation is what can be asked of it under a number.
func wantsOfSmallStation(number int) []impl.ClaimWant {
	return []impl.ClaimWant{
		moveOf(number, "a", "j p>2 q<2", "u", "v"), moveOf(number, "a", "p<1", "v", ""), moveOf(number, "a", "q>1", "", "u"), moveOf(number, "b", "q<2", "u", ""),
		cleanOf(number, "j q", "u"), permitOf(number, "j", "v"),
	}
}

// eachStep tells all that can come next in a run of the small station.
func (r claimRun) eachStep(t *testing.T, tell func(next claimRun, code int)) {
	t.Helper()
	for _, number := range []int{r.book.Seen, r.book.Seen + 1} {
		for _, w := range wantsOfSmallStation(number) {
			tell(r.grant(t, w))
		}
	}
	for _, p := range r.book.Parts {
		tell(r.stop(t, p.Want.Number))
		for moved := range 3 {
			tell(r.over(t, p.Want.Number, moved, false))
		}
		tell(r.over(t, p.Want.Number, 0, true))
	}
}

func TestAllShortRuns(t *testing.T) {
	runs, seen, codes := []claimRun{beginRun(smallStation())}, map[string]bool{}, map[int]int{}
	for range 8 {
		var more []claimRun
		for _, r := range runs {
			r.eachStep(t, func(next claimRun, code int) {
				codes[code]++
				// What was told once, by whatever steps it was come to, leads on to the same.
				if key := fmt.Sprint(next); !seen[key] {
					seen[key] = true
					more = append(more, next)
				}
			})
		}
		runs = more
	}
	for _, code := range []int{0, 2, 3, 4, 6, 7, 8, 9, 10, 11, 12} {
		if codes[code] < 20 {
			t.Errorf("code %d: %d times", code, codes[code])
		}
	}
	if len(seen) < 1000 {
		t.Errorf("%d books", len(seen))
	}
}

// someStation is a book without parts, in which of each place it is known what is in it.
func someStation(dice *rand.Rand) impl.ClaimBook {
	b := someClaimBook(dice)
	b.Parts, b.Seen = nil, dice.Intn(3)
	for i := range b.Spots {
		s := &b.Spots[i]
		s.Cap = s.Least + dice.Intn(5)
		s.Most = s.Least
		s.May = pick([]string{"a", "d"}, dice.Intn(4))
	}
	return b
}

// someStep goes on with a run in any way.
func (r claimRun) someStep(t *testing.T, dice *rand.Rand, asked []impl.ClaimWant) (next claimRun, what string, code int) {
	t.Helper()
	number := dice.Intn(r.book.Seen + 2)
	if len(r.book.Parts) > 0 && dice.Intn(8) > 0 {
		number = r.book.Parts[dice.Intn(len(r.book.Parts))].Want.Number
	}
	switch dice.Intn(3) {
	case 0:
		next, code = r.grant(t, asked[len(asked)-1-dice.Intn(2)])
		return next, "grant", code
	case 1:
		next, code = r.stop(t, number)
		return next, "stop", code
	}
	next, code = r.over(t, number, dice.Intn(5)-1, dice.Intn(2) == 0)
	return next, "over", code
}

func TestSomeRuns(t *testing.T) {
	dice := rand.New(rand.NewSource(17))
	codes := map[string]int{}
	for range 400 {
		b := someStation(dice)
		if !impl.ClaimBookOk(b) {
			continue
		}
		r := beginRun(b)
		asked := []impl.ClaimWant{someClaimWant(dice, 1)}
		for range 60 {
			asked = append(asked, someClaimWant(dice, r.book.Seen+dice.Intn(3)))
			next, what, code := r.someStep(t, dice, asked)
			r = next
			codes[fmt.Sprint(what, " ", code)]++
		}
	}
	for _, code := range strings.Split("grant 0,grant 3,grant 4,grant 6,grant 7,grant 8,grant 9,grant 10,grant 11,stop 0,stop 3,over 0,over 2,over 3,over 12", ",") {
		if codes[code] < 10 {
			t.Errorf("%s: %d times", code, codes[code])
		}
	}
}

// Promise 18, of what is over: neither under its number, nor under one ahead of it, anything is granted.
func TestWhatIsOverIsNotGrantedAgain(t *testing.T) {
	for _, moved := range []int{0, 1, 2} {
		r := beginRun(smallStation())
		w := wantsOfSmallStation(4)[0]
		r, _ = r.grant(t, w)
		r, _ = r.stop(t, 4)
		r, code := r.over(t, 4, moved, true)
		if code != 0 {
			t.Fatalf("code %d", code)
		}
		for number := 1; number <= 4; number++ {
			for _, again := range wantsOfSmallStation(number) {
				checkNotGranted(t, "over, or ahead of that", r.book, again, 4)
			}
		}
		if _, code := r.grant(t, permitOf(5, "j", "u v")); code != 0 {
			t.Errorf("the next one: %d", code)
		}
	}
}

// Promise 19, with all else that was granted still there.
func TestWhatIsGrantedInVain(t *testing.T) {
	for _, w := range askedOfFree() {
		before := freeClaims()
		after, code := impl.ClaimGrant(before, w)
		if w.Number <= before.Seen || code != 0 {
			continue
		}
		checkInVain(t, before, after, w.Number)
		halted, _ := impl.ClaimStop(after, w.Number)
		// Seen is the number, and May is what granting made of it, but for what was cleaned.
		want := copied(after)
		for i := range want.Spots {
			want.Spots[i].Least, want.Spots[i].Most = before.Spots[i].Least, before.Spots[i].Most
		}
		want.Parts = want.Parts[:len(want.Parts)-1]
		checkOver(t, "in vain", halted, w.Number, 0, false, want, 0)
		for i := range want.Spots {
			if w.Kind == impl.ClaimClean && slices.ContainsFunc(w.Uses, func(u impl.ClaimUse) bool { return u.Name == want.Spots[i].Name }) {
				want.Spots[i].May = nil
			}
		}
		checkOver(t, "in vain, done", halted, w.Number, 0, true, want, 0)
	}
}

// whole goes through all steps of a want, of which so much is moved.
func (r claimRun) whole(t *testing.T, w impl.ClaimWant, moved int) claimRun {
	t.Helper()
	r, granted := r.grant(t, w)
	r, halted := r.stop(t, w.Number)
	r, over := r.over(t, w.Number, moved, false)
	if granted != 0 || halted != 0 || over != 0 {
		t.Fatalf("want %d: %d, %d, %d: %+v", w.Number, granted, halted, over, r.book)
	}
	return r
}

// What was to be moved and was not is there for the next one, and leaves room for it: a station can go on for ever.
func TestRunThatGoesOn(t *testing.T) {
	r, number := beginRun(smallStation()), 0
	for round := range 200 {
		there := round % 3
		number++
		r = r.whole(t, moveOf(number, "a", "j p>2 q<2", "u", "v"), there)
		if there > 0 {
			number++
			r = r.whole(t, moveOf(number, "a", fmt.Sprint("j p<", there, " q>", there), "u", ""), there)
		}
		if p, q := spot("p", 2, 2, 2, "a"), spot("q", 2, 0, 0, "a"); !reflect.DeepEqual(r.book.Spots[1:], []impl.ClaimSpot{p, q}) || len(r.book.Parts) > 0 {
			t.Fatalf("round %d: %+v", round, r.book)
		}
	}
}
