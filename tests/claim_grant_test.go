package tests

import (
	"fmt"
	"math"
	"math/rand"
	"reflect"
	"slices"
	"strconv"
	"strings"
	"sync"
	"testing"

	"loop.example/malthouse/impl"
)

// sameClaims says whether two books are the same; an empty list is as good as none.
func sameClaims(a, b impl.ClaimBook) bool {
	return reflect.DeepEqual(copied(a), copied(b))
}

func checkGrant(t *testing.T, what string, b impl.ClaimBook, w impl.ClaimWant, want impl.ClaimBook, code int) {
	t.Helper()
	if is := impl.ClaimCode(b, w); is != code {
		t.Errorf("%s: ClaimCode = %d; want %d: %+v in %+v", what, is, code, w, b)
	}
	if after, is := impl.ClaimGrant(b, w); is != code || !sameClaims(after, want) {
		t.Errorf("%s: ClaimGrant = %+v, %d; want %+v, %d: %+v in %+v", what, after, is, want, code, w, b)
	}
}

// checkNotGranted asks for a code, and for what a refusal by it leaves.
func checkNotGranted(t *testing.T, what string, b impl.ClaimBook, w impl.ClaimWant, code int) {
	t.Helper()
	want := copied(b)
	switch {
	case code == 1:
		want = impl.ClaimBook{}
	case code >= 5:
		want.Seen = w.Number
		checkGrant(t, what+", a second time", want, w, want, 4)
	}
	checkGrant(t, what, b, w, want, code)
}

// checkGranted asks for a want behind the parts, and for what else is told to have changed.
func checkGranted(t *testing.T, what string, b impl.ClaimBook, w impl.ClaimWant, change func(b *impl.ClaimBook)) {
	t.Helper()
	want := copied(b)
	want.Parts = append(want.Parts, impl.ClaimPart{Want: w})
	want.Seen = w.Number
	change(&want)
	checkGrant(t, what, b, w, want, 0)
	checkClaims(t, what+", behind it", want, true)
	checkGrant(t, what+", a second time", want, w, want, 0)
}

// checkCan asks for a code alone, and with 0 for a book that is ok, and has the want once.
func checkCan(t *testing.T, what string, b impl.ClaimBook, w impl.ClaimWant, code int) {
	t.Helper()
	if code != 0 {
		checkNotGranted(t, what, b, w, code)
		return
	}
	want, _ := grantByDefinition(b, w)
	checkGrant(t, what, b, w, want, 0)
	checkClaims(t, what+", behind it", want, true)
	checkGrant(t, what+", a second time", want, w, want, 0)
}

// turnOf is what a want does to a valve: it opens it, keeps it shut, or neither.
func turnOf(w impl.ClaimWant, valve string) string {
	switch {
	case slices.Contains(w.Opens, valve):
		return "open"
	case slices.Contains(w.Shuts, valve):
		return "shut"
	}
	return ""
}

// partsReasonByDefinition reads a second time what the parts of a book have against a want.
func partsReasonByDefinition(b impl.ClaimBook, w impl.ClaimWant) int {
	used, crossed := false, false
	for _, p := range b.Parts {
		for _, u := range append(slices.Clone(p.Want.Uses), w.Uses...) {
			mine := slices.ContainsFunc(w.Uses, func(x impl.ClaimUse) bool { return x.Name == u.Name })
			theirs := slices.ContainsFunc(p.Want.Uses, func(x impl.ClaimUse) bool { return x.Name == u.Name })
			used = used || mine && theirs
		}
		for _, valve := range b.Valves {
			both := turnOf(w, valve) + " " + turnOf(p.Want, valve)
			crossed = crossed || both == "open open" || both == "open shut" || both == "shut open"
		}
	}
	switch {
	case len(b.Parts) == 6:
		return 5
	case used:
		return 6
	case crossed:
		return 7
	}
	return 0
}

// mayReasonByDefinition reads a second time what is asked of the stuffs of one place.
func mayReasonByDefinition(b impl.ClaimBook, w impl.ClaimWant, u impl.ClaimUse, s impl.ClaimSpot) int {
	left, moved := 1, 2
	all := map[string]int{}
	for _, stuff := range s.May {
		all[stuff] += left
	}
	for _, stuff := range w.Stuffs {
		all[stuff] += moved
	}
	for _, x := range all {
		if x == left && u.Role != 2 {
			return 8
		}
	}
	for _, f := range b.Foes {
		if u.Role == 2 && (all[f.A]&left > 0 && all[f.B]&moved > 0 || all[f.A]&moved > 0 && all[f.B]&left > 0) {
			return 8
		}
	}
	if u.Role == 2 && len(all) > 8 {
		return 5
	}
	return 0
}

// amountReasonByDefinition reads a second time what is asked of how much is in one place.
func amountReasonByDefinition(w impl.ClaimWant, u impl.ClaimUse, s impl.ClaimSpot) int {
	switch {
	case u.Role == 1 && s.Least-u.Amount < 0:
		return 9
	case u.Role == 2 && s.Cap-s.Most-u.Amount < 0:
		return 10
	case w.Kind == 2 && s.Most != 0:
		return 11
	}
	return 0
}

// placesReasonByDefinition reads a second time what the stuffs and the places have against a want.
func placesReasonByDefinition(b impl.ClaimBook, w impl.ClaimWant, spots map[string]impl.ClaimSpot) int {
	for _, f := range b.Foes {
		if slices.Contains(w.Stuffs, f.A) && slices.Contains(w.Stuffs, f.B) {
			return 8
		}
	}
	for _, u := range w.Uses {
		if code := mayReasonByDefinition(b, w, u, spots[u.Name]); w.Kind == 1 && code != 0 {
			return code
		}
	}
	for _, u := range w.Uses {
		if code := amountReasonByDefinition(w, u, spots[u.Name]); code != 0 {
			return code
		}
	}
	return 0
}

// reasonByDefinition reads the chapter a second time. It says, too, whether the want is granted already.
func reasonByDefinition(b impl.ClaimBook, w impl.ClaimWant) (code int, already bool) {
	if !claimsByDefinition(b) {
		return 1, false
	}
	known, spots := wantByDefinition(w), map[string]impl.ClaimSpot{}
	for _, s := range b.Spots {
		spots[s.Name] = s
	}
	for _, u := range w.Uses {
		known = known && spots[u.Name].Name == u.Name
	}
	for _, valve := range append(slices.Clone(w.Opens), w.Shuts...) {
		known = known && slices.Contains(b.Valves, valve)
	}
	if !known {
		return 2, false
	}
	for _, p := range b.Parts {
		if p.Want.Number == w.Number && reflect.DeepEqual(copied(p.Want), copied(w)) {
			return 0, true
		} else if p.Want.Number == w.Number {
			return 3, false
		}
	}
	if w.Number <= b.Seen {
		return 4, false
	}
	if code := partsReasonByDefinition(b, w); code > 0 {
		return code, false
	}
	return placesReasonByDefinition(b, w, spots), false
}

// grantByDefinition reads the chapter a second time.
func grantByDefinition(b impl.ClaimBook, w impl.ClaimWant) (impl.ClaimBook, int) {
	code, already := reasonByDefinition(b, w)
	after := copied(b)
	switch {
	case code == 1:
		return impl.ClaimBook{}, 1
	case code >= 5:
		after.Seen = w.Number
	case code == 0 && !already:
		after.Parts, after.Seen = append(after.Parts, impl.ClaimPart{Want: copied(w)}), w.Number
		for i, s := range after.Spots {
			for _, u := range w.Uses {
				if u.Name != s.Name {
					continue
				}
				s.Least -= choose(u.Role == 1, u.Amount, 0)
				s.Most += choose(u.Role == 2, u.Amount, 0)
				s.May = append(s.May, choose(u.Role == 1, nil, w.Stuffs)...)
				slices.Sort(s.May)
				s.May = slices.Compact(s.May)
			}
			after.Spots[i] = s
		}
	}
	return after, code
}

// freeClaims is a book with two parts that use one place and turn two valves, and with much that is free.
func freeClaims() impl.ClaimBook {
	b := impl.ClaimBook{
		Foes: claimFoes("ale/lye", "lye/malt"),
		Spots: []impl.ClaimSpot{
			spot("bin", 50, 20, 30, "ale malt"), spot("j", 0, 0, 0, ""), spot("keg", 40, 10, 25, "ale"),
			spot("pan", 9, 0, 0, "lye"), spot("tun", 100, 60, 60, "ale"), spot("vat", 30, 5, 5, "malt"),
		},
		Valves: strings.Fields("v1 v2 v3 v4 v5"),
		Parts:  granted(moveOf(3, "ale malt", "bin<10", "v1", "v2"), permitOf(5, "", "v2 v3")),
		Seen:   7,
	}
	b.Parts[0].Stopped = true
	return b
}

func TestWantsThatAreGranted(t *testing.T) {
	b := freeClaims()
	checkClaims(t, "what is free", b, true)
	checkGranted(t, "a move", b, moveOf(8, "ale", "j keg<15 tun>60", "v4", "v2 v5"), func(b *impl.ClaimBook) {
		b.Spots[1], b.Spots[2], b.Spots[4] = spot("j", 0, 0, 0, "ale"), spot("keg", 40, 10, 40, "ale"), spot("tun", 100, 0, 60, "ale")
	})
	checkGranted(t, "a move of more stuffs than may be left", b, moveOf(9, "a-b ale water", "j keg<1 tun>1", "", ""), func(b *impl.ClaimBook) {
		b.Spots[1], b.Spots[2], b.Spots[4] = spot("j", 0, 0, 0, "a-b ale water"), spot("keg", 40, 10, 26, "a-b ale water"), spot("tun", 100, 59, 60, "ale")
	})
	checkGranted(t, "a move of other stuffs than may be left", b, moveOf(9, "aa zz", "keg<1 vat<25", "", ""), func(b *impl.ClaimBook) {
		b.Spots[2], b.Spots[5] = spot("keg", 40, 10, 26, "aa ale zz"), spot("vat", 30, 5, 30, "aa malt zz")
	})
	checkGranted(t, "a move by places alone", b, moveOf(9, "ale malt", "j keg tun vat", "", ""), func(b *impl.ClaimBook) {
		for _, at := range []int{1, 2, 4, 5} {
			b.Spots[at].May = []string{"ale", "malt"}
		}
	})
	checkGranted(t, "a move out of places alone", b, moveOf(9, "ale malt", "keg>10 tun>7 vat>5", "", ""), func(b *impl.ClaimBook) {
		b.Spots[2].Least, b.Spots[4].Least, b.Spots[5].Least = 0, 53, 0
	})
	nothing := func(*impl.ClaimBook) {}
	checkGranted(t, "a move that opens alone", b, moveOf(9, "water", "", "v4 v5", ""), nothing)
	checkGranted(t, "a move that keeps shut alone", b, moveOf(9, "water", "", "", "v2 v3 v4 v5"), nothing)
	checkGranted(t, "a clean", b, cleanOf(9, "j pan", "v2 v4"), nothing)
	checkGranted(t, "a clean that keeps shut alone", b, cleanOf(9, "", "v3"), nothing)
	checkGranted(t, "a permit", b, permitOf(9, "j keg pan tun vat", "v3 v4 v5"), nothing)
	checkGranted(t, "a permit that keeps shut alone", b, permitOf(impl.ClaimMaxNumber, "", "v3"), nothing)
}

// Of one book wants are granted one after the other, each behind the last.
func TestWantsThatAreGrantedOneAfterTheOther(t *testing.T) {
	b := impl.ClaimBook{Foes: claimFoes("a/b"), Valves: strings.Fields("u v w x y z")}
	for _, name := range strings.Fields("o p q r s t") {
		b.Spots = append(b.Spots, spot(name, 20, 10, 10, choose(name < "r", "a", "b")))
	}
	for i, w := range []impl.ClaimWant{moveOf(2, "a", "o>4", "u", ""), permitOf(3, "q", "w"), moveOf(7, "b", "r<10", "v", "w"), cleanOf(8, "", "w z"), moveOf(9, "b c", "s t>1", "x", "w"), moveOf(1000, "a", "p<1", "y", "")} {
		after, code := impl.ClaimGrant(b, w)
		want, _ := grantByDefinition(b, w)
		if code != 0 || !sameClaims(after, want) || len(after.Parts) != i+1 || !impl.ClaimBookOk(after) {
			t.Fatalf("want %d: %d, %+v", i, code, after)
		}
		b = after
	}
	for _, p := range b.Parts {
		checkGrant(t, "granted already", b, p.Want, b, 0)
	}
	checkNotGranted(t, "one more", b, permitOf(1001, "", "w"), 5)
	checkNotGranted(t, "as before", b, permitOf(1000, "", "w"), 3)
	checkNotGranted(t, "one between", b, permitOf(999, "", "w"), 4)
}

func TestGrantsInBooksThatAreNotOk(t *testing.T) {
	for i, b := range spoiltClaims() {
		what := "spoilt " + strconv.Itoa(i)
		for _, w := range append(spoiltWants(), permitOf(10, "pan", "v5"), smallClaims().Parts[0].Want, permitOf(3, "", "v5"), permitOf(1, "", "v5"), impl.ClaimWant{}) {
			checkNotGranted(t, what, b, w, 1)
		}
		for _, p := range b.Parts {
			checkNotGranted(t, what+", its own part", b, p.Want, 1)
		}
	}
}

func TestWantsThatAreNotOkOrNotKnown(t *testing.T) {
	b := impl.ClaimBook{Valves: strings.Fields("v1 v2 v3 v4 v5"), Spots: []impl.ClaimSpot{spot("j", 9, 9, 9, ""), spot("keg", 9, 0, 0, ""), spot("tun", 9, 9, 9, "")}}
	checkCan(t, "a want that is ok and known", b, smallMove(), 0)
	for i, w := range spoiltWants() {
		checkNotGranted(t, "spoilt "+strconv.Itoa(i), b, w, 2)
	}
	checkNotGranted(t, "nothing", b, impl.ClaimWant{}, 2)
	checkNotGranted(t, "nothing in the empty book", impl.ClaimBook{}, impl.ClaimWant{}, 2)
	for uses, known := range map[string]bool{"keg": true, "j keg tun": true, "ke": false, "kegs": false, "j keg tun vat": false, "a j": false, "v1": false, "k": false} {
		for _, w := range []impl.ClaimWant{moveOf(1, "ale", uses, "v1", ""), permitOf(1, uses, "v1")} {
			checkCan(t, "places "+uses, b, w, choose(known, 0, 2))
		}
		checkCan(t, "cleaned "+uses, b, cleanOf(1, uses, "v1"), choose(uses == "keg", 0, choose(known, 11, 2)))
	}
	for valves, known := range map[string]bool{"v1": true, "v5": true, "v1 v3 v5": true, "v": false, "v11": false, "v0 v1": false, "v5 v6": false, "keg": false, "v1 v2 v3 v4 v5": true, "v1 v2 v3 v4 v5 v6": false} {
		checkCan(t, "opens "+valves, b, moveOf(1, "ale", "", valves, ""), choose(known, 0, 2))
		checkCan(t, "shuts "+valves, b, moveOf(1, "ale", "", "", valves), choose(known, 0, 2))
		checkCan(t, "a permit shuts "+valves, b, permitOf(1, "", valves), choose(known, 0, 2))
		checkCan(t, "a clean shuts "+valves, b, cleanOf(1, "", valves), choose(known, 0, 2))
	}
	// A stuff need not be known anywhere.
	checkCan(t, "a stuff that nobody knows", b, moveOf(1, "none", "j", "v1", ""), 0)
}

// alreadyGranted is books with a part that could not be granted a second time, each for a reason of its own, by the code of that.
func alreadyGranted() map[int]impl.ClaimBook {
	tight := impl.ClaimBook{Spots: []impl.ClaimSpot{spot("p", 9, 0, 5, "a"), spot("q", 9, 0, 9, "a"), spot("r", 0, 0, 0, "a")}, Valves: []string{"u", "v"}, Seen: 1}
	of := func(w impl.ClaimWant, change func(b *impl.ClaimBook)) impl.ClaimBook {
		b := copied(tight)
		b.Parts = granted(w)
		change(&b)
		return b
	}
	return map[int]impl.ClaimBook{
		4: of(permitOf(1, "", "v"), func(b *impl.ClaimBook) { b.Seen = 9 }),
		5: of(permitOf(1, "", "v"), func(b *impl.ClaimBook) {
			b.Parts, b.Seen = granted(permitOf(1, "", "v"), permitOf(2, "", "v"), permitOf(3, "", "v"), permitOf(4, "", "v"), permitOf(5, "", "v"), permitOf(6, "", "v")), 6
		}),
		6:  of(permitOf(1, "p q r", ""), func(b *impl.ClaimBook) {}),
		7:  of(moveOf(1, "a", "", "u", "v"), func(b *impl.ClaimBook) {}),
		8:  of(moveOf(1, "a b", "p>5", "", ""), func(b *impl.ClaimBook) { b.Foes = claimFoes("a/b") }),
		9:  of(moveOf(1, "a", "p>5 r", "u", "v"), func(b *impl.ClaimBook) {}),
		10: of(moveOf(1, "a", "q<9 r", "u", "v"), func(b *impl.ClaimBook) {}),
	}
}

func TestWantsThatAreGrantedAlready(t *testing.T) {
	for code, b := range alreadyGranted() {
		for _, stopped := range []bool{false, true} {
			what := "beside code " + strconv.Itoa(code)
			b.Parts[0].Stopped = stopped
			checkClaims(t, what, b, true)
			checkGrant(t, what, b, b.Parts[0].Want, b, 0)
			// Of a want in memory of its own, and with empty lists in place of none, the same is told.
			w := copied(b.Parts[0].Want)
			for _, list := range []*[]string{&w.Stuffs, &w.Opens, &w.Shuts} {
				*list = append([]string{}, *list...)
			}
			w.Uses = append([]impl.ClaimUse{}, w.Uses...)
			checkGrant(t, what+", with empty lists", b, w, b, 0)
		}
	}
	for what, b := range someClaims() {
		for _, p := range b.Parts {
			checkGrant(t, what, b, p.Want, b, 0)
		}
	}
}

func TestAnotherWantOfThisNumber(t *testing.T) {
	base := impl.ClaimBook{
		Spots:  []impl.ClaimSpot{spot("p", 9, 0, 9, "a b"), spot("q", 9, 0, 9, "a b"), spot("r", 9, 0, 9, "a b"), spot("s", 9, 0, 0, "a b")},
		Valves: strings.Fields("u v w x y z"),
		Seen:   9,
	}
	move, clean, permit := moveOf(4, "a b", "p>3 q<3 r", "u v", "w x"), cleanOf(4, "s", "w x"), permitOf(4, "s", "w x")
	for _, c := range []struct {
		is     impl.ClaimWant
		others []impl.ClaimWant
	}{
		{move, []impl.ClaimWant{
			moveOf(4, "a", "p>3 q<3 r", "u v", "w x"), moveOf(4, "b", "p>3 q<3 r", "u v", "w x"), moveOf(4, "a c", "p>3 q<3 r", "u v", "w x"), moveOf(4, "a b c", "p>3 q<3 r", "u v", "w x"), moveOf(4, "-a b", "p>3 q<3 r", "u v", "w x"),
			moveOf(4, "a b", "p>2 q<3 r", "u v", "w x"), moveOf(4, "a b", "p>3 q<4 r", "u v", "w x"), moveOf(4, "a b", "p<3 q<3 r", "u v", "w x"), moveOf(4, "a b", "p>3 q r", "u v", "w x"), moveOf(4, "a b", "p>3 q<3 r>1", "u v", "w x"), moveOf(4, "a b", "p>3 q<3 s", "u v", "w x"), moveOf(4, "a b", "p>3 q<3", "u v", "w x"), moveOf(4, "a b", "q<3 r", "u v", "w x"), moveOf(4, "a b", "p>3 q<3 r s", "u v", "w x"), moveOf(4, "a b", "", "u v", "w x"),
			moveOf(4, "a b", "p>3 q<3 r", "u", "w x"), moveOf(4, "a b", "p>3 q<3 r", "v", "w x"), moveOf(4, "a b", "p>3 q<3 r", "u y", "w x"), moveOf(4, "a b", "p>3 q<3 r", "u v y", "w x"), moveOf(4, "a b", "p>3 q<3 r", "", "w x"),
			moveOf(4, "a b", "p>3 q<3 r", "u v", "w"), moveOf(4, "a b", "p>3 q<3 r", "u v", "x"), moveOf(4, "a b", "p>3 q<3 r", "u v", "w y"), moveOf(4, "a b", "p>3 q<3 r", "u v", "w x z"), moveOf(4, "a b", "p>3 q<3 r", "u v", ""), moveOf(4, "a b", "p>3 q<3 r", "w x", "u v"),
			clean, permit, permitOf(4, "", "z"),
		}},
		{clean, []impl.ClaimWant{permit, move, cleanOf(4, "r", "w x"), cleanOf(4, "r s", "w x"), cleanOf(4, "", "w x"), cleanOf(4, "s", "w"), cleanOf(4, "s", ""), cleanOf(4, "s", "w x y"), moveOf(4, "a", "s", "", "w x")}},
		{permit, []impl.ClaimWant{clean, move, permitOf(4, "r", "w x"), permitOf(4, "r s", "w x"), permitOf(4, "", "w x"), permitOf(4, "s", "x"), permitOf(4, "s", ""), permitOf(4, "s", "v w x"), moveOf(4, "a", "s", "", "w x")}},
	} {
		for _, stopped := range []bool{false, true} {
			b := copied(base)
			b.Parts = append(granted(permitOf(2, "", "x"), c.is), granted(permitOf(7, "", "x"))...)
			b.Parts[1].Stopped = stopped
			checkGrant(t, "the same", b, c.is, b, 0)
			for _, other := range c.others {
				checkNotGranted(t, "another want", b, other, 3)
			}
			// All of it but the number is that of a part.
			other := copied(c.is)
			other.Number = 5
			checkNotGranted(t, "another number, not above Seen", b, other, 4)
			other.Number = 7
			checkNotGranted(t, "the number of another part", b, other, 3)
			other.Number = 10
			checkNotGranted(t, "another number", b, other, 6)
		}
	}
}

func TestNumbersAndSeen(t *testing.T) {
	for _, seen := range []int{0, 1, 2, 9, 10, 999999, 1000000} {
		for _, w := range []impl.ClaimWant{moveOf(1, "a", "p", "v", ""), cleanOf(1, "p", "v"), permitOf(1, "p", "v")} {
			b := impl.ClaimBook{Spots: []impl.ClaimSpot{spot("p", 0, 0, 0, "")}, Valves: []string{"v"}, Seen: seen}
			for _, number := range []int{math.MinInt, -1, 0, 1, 2, 3, seen - 1, seen, seen + 1, seen + 2, 1000000, 1000001, math.MaxInt} {
				code := choose(number <= seen, 4, 0)
				if number < 1 || number > 1000000 {
					code = 2
				}
				w.Number = number
				checkCan(t, "seen "+strconv.Itoa(seen), b, w, code)
			}
		}
	}
	// Seen alone counts, and not the number of the last part.
	b := impl.ClaimBook{Valves: []string{"v"}, Parts: granted(permitOf(3, "", "v"), permitOf(6, "", "v")), Seen: 8}
	for number, code := range map[int]int{1: 4, 2: 4, 3: 0, 4: 4, 5: 4, 6: 0, 7: 4, 8: 4, 9: 0, 10: 0} {
		checkCan(t, "parts of 3 and 6", b, permitOf(number, "", "v"), code)
	}
	for number, code := range map[int]int{1: 4, 2: 4, 3: 3, 4: 4, 5: 4, 6: 3, 7: 4, 8: 4, 9: 0} {
		checkCan(t, "another want", b, cleanOf(number, "", "v"), code)
	}
}

func TestAsManyPartsAsMayBe(t *testing.T) {
	for many := range impl.ClaimMaxParts + 1 {
		for stopped := range 2 {
			b := impl.ClaimBook{Spots: []impl.ClaimSpot{spot("p", 9, 5, 5, "a")}, Valves: []string{"v", "w"}, Seen: 20}
			for i := range many {
				b.Parts = append(b.Parts, impl.ClaimPart{Want: permitOf(1+3*i, "", "v"), Stopped: stopped == 1})
			}
			code := choose(many == 6, 5, 0)
			for _, w := range []impl.ClaimWant{permitOf(21, "", "v"), cleanOf(30, "", "w"), moveOf(21, "a", "p>5", "w", "v")} {
				checkCan(t, strconv.Itoa(many)+" parts", b, w, code)
			}
		}
	}
	full := fullClaims()
	full.Seen--
	for i := range full.Parts {
		full.Parts[i].Want.Number--
	}
	checkNotGranted(t, "a full book", full, permitOf(impl.ClaimMaxNumber, "", "v20"), 5)
	full.Parts = full.Parts[1:]
	checkCan(t, "one part less", full, permitOf(impl.ClaimMaxNumber, "", "v20"), 0)
}

// wantsOfPlaces is a want of each kind and each role for places.
func wantsOfPlaces(number int, names ...string) []impl.ClaimWant {
	all := []impl.ClaimWant{}
	for _, mark := range []string{">1", "<1", ""} {
		all = append(all, moveOf(number, "a", strings.Join(names, mark+" ")+mark, "", ""))
	}
	return append(all, cleanOf(number, strings.Join(names, " "), ""), permitOf(number, strings.Join(names, " "), ""))
}

func TestPlacesThatAPartUses(t *testing.T) {
	for _, stopped := range []bool{false, true} {
		for kind := range 5 {
			b := impl.ClaimBook{Spots: []impl.ClaimSpot{spot("o", 9, 0, 0, "a"), spot("p", 9, 0, 0, "a"), spot("q", 9, 0, 0, "a"), spot("r", 9, 0, 0, "a")}, Seen: 3}
			if kind < 2 {
				b.Spots[1].Most, b.Spots[2].Most = 1, 1
			}
			b.Parts = append(granted(permitOf(1, "o", "")), impl.ClaimPart{Want: wantsOfPlaces(3, "p", "q")[kind], Stopped: stopped})
			checkClaims(t, "parts", b, true)
			for _, names := range [][]string{{"p"}, {"q"}, {"p", "q"}, {"o", "p"}, {"q", "r"}, {"o"}, {"o", "r"}, {"p", "q", "r"}} {
				for _, w := range wantsOfPlaces(4, names...) {
					checkNotGranted(t, strings.Join(names, " "), b, w, 6)
				}
			}
			for i, w := range wantsOfPlaces(4, "r") {
				checkCan(t, "another place", b, w, choose(i == 0, 9, 0))
			}
		}
	}
	// A place that has the name of a valve, or of a stuff, is another thing.
	b := impl.ClaimBook{Spots: []impl.ClaimSpot{spot("a", 0, 0, 0, ""), spot("v", 0, 0, 0, "")}, Valves: []string{"a", "v"}, Parts: granted(moveOf(1, "a", "", "v", "")), Seen: 1}
	checkCan(t, "a place with a valve's name", b, permitOf(2, "v", ""), 0)
	checkCan(t, "a place with a stuff's name", b, permitOf(2, "a", ""), 0)
	b.Parts = granted(permitOf(1, "v", ""))
	checkCan(t, "a valve with a place's name", b, moveOf(2, "a", "", "v", ""), 0)
	checkCan(t, "a valve with a place's name, kept shut", b, permitOf(2, "", "v"), 0)
}

func TestWantsThatCross(t *testing.T) {
	turns := func(number int, text string) impl.ClaimWant {
		opens, shuts, _ := strings.Cut(text, "/")
		return moveOf(number, "a", "", opens, shuts)
	}
	for _, c := range []struct {
		part, want string
		code       int
	}{
		{"v/", "v/", 7}, {"v/", "/v", 7}, {"/v", "v/", 7}, {"/v", "/v", 0}, {"v/", "w/", 0}, {"v/", "/w", 0}, {"/v", "w/", 0}, {"v/w", "w/v", 7}, {"v/w", "/v w", 7}, {"/v w", "v/w", 7}, {"/v w", "/v w", 0},
		{"v/w", "x/w", 0}, {"v/w", "w/", 7}, {"w/", "v/w", 7}, {"u v/", "v w/", 7}, {"u v/", "/v", 7}, {"u v/", "/u", 7}, {"/u v", "v/", 7}, {"/u v", "u/", 7}, {"/u v", "w/u v", 0},
		{"u v/w x", "t y/w x", 0}, {"u v/w x", "t x/w", 7}, {"u v/w x", "t/v w", 7}, {"u v/w x", "t/w x y", 0}, {"u/", "/t v w x y", 0}, {"u/", "/t u v w x y", 7}, {"/t v w x y", "u/", 0},
	} {
		for _, stopped := range []bool{false, true} {
			b := impl.ClaimBook{Valves: strings.Fields("t u v w x y z"), Parts: granted(turns(2, c.part)), Seen: 9}
			b.Parts[0].Stopped = stopped
			checkCan(t, c.part+" and "+c.want, b, turns(10, c.want), c.code)
			b.Parts = slices.Insert(b.Parts, 0, granted(moveOf(1, "a", "", "z", ""))...)
			checkCan(t, "the second, "+c.part+" and "+c.want, b, turns(10, c.want), c.code)
			b.Parts = append(b.Parts[1:], granted(moveOf(5, "a", "", "z", ""))...)
			checkCan(t, "the first, "+c.part+" and "+c.want, b, turns(10, c.want), c.code)
		}
	}
	b := impl.ClaimBook{Valves: []string{"u", "v"}, Parts: granted(moveOf(1, "a", "", "v", "")), Seen: 1}
	for _, w := range []impl.ClaimWant{cleanOf(2, "", "v"), permitOf(2, "", "v"), cleanOf(2, "", "u v"), permitOf(2, "", "u v")} {
		checkNotGranted(t, "another kind keeps shut what is opened", b, w, 7)
	}
	for _, part := range []impl.ClaimWant{cleanOf(1, "", "v"), permitOf(1, "", "v")} {
		b.Parts = granted(part)
		checkNotGranted(t, "what another kind keeps shut is opened", b, moveOf(2, "a", "", "v", ""), 7)
		checkCan(t, "it is kept shut by one more", b, permitOf(2, "", "u v"), 0)
		checkCan(t, "another one is opened", b, moveOf(2, "a", "", "u", "v"), 0)
	}
}

func TestFoesAmongTheStuffsOfAWant(t *testing.T) {
	for _, c := range []struct {
		stuffs string
		code   int
	}{
		{"a", 0}, {"b", 0}, {"a b", 8}, {"a c", 8}, {"b c", 0}, {"a d", 0}, {"a b c", 8}, {"a d e", 0}, {"b c d", 0}, {"a d x y", 8}, {"d x y", 8}, {"x y", 8}, {"x z", 0}, {"0 a b", 8}, {"a aa ab", 0}, {"b c d e f y z", 0}, {"b c d e f w x y", 8},
	} {
		// Nothing else is asked where no place is used, or where one is that nothing may be left in.
		for _, uses := range []string{"", "p", "p>1", "p<1"} {
			b := impl.ClaimBook{Foes: claimFoes("a/b", "a/c", "x/y"), Spots: []impl.ClaimSpot{spot("p", 9, 5, 5, "")}, Valves: []string{"v"}}
			checkCan(t, c.stuffs+" at "+uses, b, moveOf(1, c.stuffs, uses, "v", ""), c.code)
			b.Foes = claimFoes("m/n")
			checkCan(t, "no foes: "+c.stuffs+" at "+uses, b, moveOf(1, c.stuffs, uses, "v", ""), 0)
		}
	}
	all := numbered("s", impl.ClaimMaxStuffs)
	for i, x := range all {
		for _, y := range all[i+1:] {
			b := impl.ClaimBook{Foes: []impl.ClaimFoe{{A: x, B: y}}, Valves: []string{"v"}}
			checkNotGranted(t, "any two of as many as may be", b, moveOf(1, strings.Join(all, " "), "", "v", ""), 8)
			without := slices.DeleteFunc(slices.Clone(all), func(s string) bool { return s == y })
			checkCan(t, "one of the two is not there", b, moveOf(1, strings.Join(without, " "), "", "v", ""), 0)
		}
	}
}

func TestWhatMayBeLeftAndIsNotMoved(t *testing.T) {
	for _, c := range []struct {
		may, stuffs string
		only        bool
	}{
		{"", "a", true}, {"", "a b", true}, {"a", "a", true}, {"a b", "a b", true}, {"a", "a b", true}, {"b", "a b", true}, {"b", "a b c", true}, {"a c", "a b c", true},
		{"a", "b", false}, {"b", "a", false}, {"a b", "a", false}, {"a b", "b", false}, {"a b c", "a c", false}, {"a b", "a c", false}, {"a b", "c d", false}, {"a", "aa", false}, {"aa", "a", false}, {"a b c d e f g h", "a b c d e f g", false}, {"a b c d e f g h", "a b c d e f g h", true},
	} {
		for at := range 3 {
			b := impl.ClaimBook{Foes: claimFoes("x/y"), Spots: []impl.ClaimSpot{spot("p", 9, 5, 5, ""), spot("q", 9, 5, 5, ""), spot("r", 9, 5, 5, "")}}
			b.Spots[at].May = strings.Fields(c.may)
			for role, want := range map[string]int{">1": choose(c.only, 0, 8), "": choose(c.only, 0, 8), "<1": 0} {
				what := c.stuffs + " where " + c.may + " may be left, " + role
				checkCan(t, what, b, moveOf(1, c.stuffs, b.Spots[at].Name+role, "", ""), want)
				uses := strings.Fields("p q r")
				uses[at] += role
				checkCan(t, what+", one of three", b, moveOf(1, c.stuffs, strings.Join(uses, " "), "", ""), want)
			}
			checkCan(t, "a permit asks for nothing", b, permitOf(1, "p q r", ""), 0)
			for i := range b.Spots {
				b.Spots[i].Least, b.Spots[i].Most = 0, 0
			}
			checkCan(t, "a clean asks for no stuffs", b, cleanOf(1, "p q r", ""), 0)
		}
	}
}

func TestFoesOfWhatMayBeLeft(t *testing.T) {
	for _, c := range []struct {
		may, stuffs string
		code        int
	}{
		{"a", "b", 8}, {"b", "a", 8}, {"a", "c", 8}, {"c", "a", 8}, {"b", "c", 0}, {"c", "b", 0}, {"a", "a", 0}, {"a", "d", 0}, {"", "a", 0}, {"a d", "b", 8}, {"d x", "y", 8}, {"d y", "x", 8}, {"a d", "d e", 0}, {"d", "a e", 0},
		{"b d", "a", 8}, {"d", "a d", 0}, {"b c", "b", 0}, {"b c", "a", 8}, {"b c", "d e f x", 0}, {"b c x", "d e f y", 8}, {"b c y", "d e f x", 8}, {"d e f y", "b c x", 8}, {"d e f x", "a y", 8}, {"d e f", "a y", 0}, {"a x", "a x", 0},
	} {
		for at := range 3 {
			b := impl.ClaimBook{Foes: claimFoes("a/b", "a/c", "x/y"), Spots: []impl.ClaimSpot{spot("p", 9, 5, 5, ""), spot("q", 9, 5, 5, ""), spot("r", 9, 5, 5, "")}}
			b.Spots[at].May = strings.Fields(c.may)
			checkClaims(t, "foes and what may be left", b, true)
			what := c.stuffs + " into where " + c.may + " may be left"
			checkCan(t, what, b, moveOf(1, c.stuffs, b.Spots[at].Name+"<4", "", ""), c.code)
			checkCan(t, what+", one of three", b, moveOf(1, c.stuffs, "p<1 q<2 r<3", "", ""), c.code)
			b.Foes = nil
			checkCan(t, "no foes: "+what, b, moveOf(1, c.stuffs, "p<1 q<2 r<3", "", ""), 0)
		}
	}
}

func TestAsManyStuffsAsMayBeLeft(t *testing.T) {
	stuffs := numbered("s", 16)
	for left := range impl.ClaimMaxStuffs + 1 {
		for from := range 9 {
			for moved := 1; moved <= impl.ClaimMaxStuffs && from+moved <= 16; moved++ {
				// So many of those that are moved are none of those that may be left.
				more := max(from+moved, left) - left
				if from > left {
					more = moved
				}
				b := impl.ClaimBook{Spots: []impl.ClaimSpot{{Name: "p", Cap: 9, May: slices.Clone(stuffs[:left])}, {Name: "q", Cap: 9}}}
				w := moveOf(1, strings.Join(stuffs[from:from+moved], " "), "p<9 q", "", "")
				checkCan(t, "some stuffs beside others", b, w, choose(left+more > 8, 5, 0))
			}
		}
	}
	b := impl.ClaimBook{Spots: []impl.ClaimSpot{spot("p", 9, 0, 0, "a c e g i k m o")}}
	checkCan(t, "all in both", b, moveOf(1, "a c e g i k m o", "p<9", "", ""), 0)
	checkCan(t, "one in both", b, moveOf(1, "m", "p<9", "", ""), 0)
	checkNotGranted(t, "one more", b, moveOf(1, "a c e g i k m n", "p<9", "", ""), 5)
	checkNotGranted(t, "one more ahead", b, moveOf(1, "-", "p<9", "", ""), 5)
	b.Spots[0].May = b.Spots[0].May[1:]
	checkGranted(t, "one less", b, moveOf(1, "c d o", "p<9", "", ""), func(b *impl.ClaimBook) {
		b.Spots[0] = spot("p", 9, 0, 9, "c d e g i k m o")
	})
	checkNotGranted(t, "two more", b, moveOf(1, "c d f o", "p<9", "", ""), 5)
}

// Of the stuffs place by place, and then of the amounts place by place: what the first place has counts.
func TestPlaceByPlace(t *testing.T) {
	many := strings.Join(numbered("s", 8), " ")
	for _, first := range placesOfEachCode(many) {
		for _, second := range placesOfEachCode(many) {
			b := impl.ClaimBook{Foes: claimFoes("a/b"), Spots: []impl.ClaimSpot{first.spot, second.spot}}
			b.Spots[0].Name, b.Spots[1].Name = "p", "q"
			w := moveOf(1, "a", "p"+first.use+" q"+second.use, "", "")
			checkCan(t, "each of them alone", b, moveOf(1, "a", "p"+first.use, "", ""), first.code)
			checkCan(t, "each of them alone", b, moveOf(1, "a", "q"+second.use, "", ""), second.code)
			code := first.code
			// What is asked of the stuffs of all places is ahead of what is asked of amounts.
			if ofStuffs := func(code int) bool { return code == 8 || code == 5 }; code == 0 || !ofStuffs(code) && ofStuffs(second.code) {
				code = second.code
			}
			checkCan(t, fmt.Sprintf("%+v and %+v", first, second), b, w, code)
		}
	}
}

type placeOfCode struct {
	spot impl.ClaimSpot
	use  string
	code int
}

// placesOfEachCode is places, and how each is used, so that just this code is met where a is moved.
func placesOfEachCode(many string) []placeOfCode {
	return []placeOfCode{
		{spot("", 9, 5, 5, "a"), ">5", 0}, {spot("", 9, 5, 5, "a"), "<4", 0}, {spot("", 0, 0, 0, "a"), "", 0},
		{spot("", 9, 5, 5, "c"), ">5", 8}, {spot("", 9, 5, 5, "b"), "<4", 8}, {spot("", 0, 0, 0, "c"), "", 8},
		{spot("", 9, 5, 5, many), "<4", 5},
		{spot("", 9, 5, 9, "a"), ">6", 9}, {spot("", 9, 0, 5, "a"), "<5", 10},
		{spot("", 9, 5, 5, "c"), ">6", 8}, {spot("", 9, 5, 5, "b"), "<5", 8}, {spot("", 9, 5, 5, many), "<5", 5},
	}
}

func TestHowMuchIsThereAndHowMuchIsAskedFor(t *testing.T) {
	for _, c := range []struct{ holds, least, most, amount, from, to int }{
		{9, 5, 5, 5, 0, 10}, {9, 5, 5, 4, 0, 0}, {9, 5, 5, 6, 9, 10}, {9, 4, 5, 5, 9, 10}, {9, 4, 5, 4, 0, 0}, {9, 0, 0, 1, 9, 0}, {9, 0, 0, 9, 9, 0}, {9, 0, 0, 10, 9, 10}, {9, 1, 9, 1, 0, 10}, {9, 0, 9, 1, 9, 10}, {9, 9, 9, 9, 0, 10}, {9, 8, 8, 1, 0, 0}, {9, 8, 8, 2, 0, 10}, {9, 0, 8, 1, 9, 0},
		{1000, 1000, 1000, 1000, 0, 10}, {1000, 999, 999, 1000, 9, 10}, {1000, 0, 0, 1000, 9, 0}, {1000, 0, 1, 1000, 9, 10}, {1000, 0, 1, 999, 9, 0}, {1000, 1, 1, 1, 0, 0}, {999, 0, 0, 1000, 9, 10}, {0, 0, 0, 1, 9, 10}, {1, 1, 1, 1, 0, 10}, {1, 0, 0, 1, 9, 0}, {1, 0, 1, 1, 9, 10},
	} {
		for at := range 3 {
			b := impl.ClaimBook{Spots: []impl.ClaimSpot{spot("p", 9, 5, 5, "a"), spot("q", 9, 5, 5, "a"), spot("r", 9, 5, 5, "a")}}
			name := b.Spots[at].Name
			b.Spots[at] = spot(name, c.holds, c.least, c.most, "a")
			for mark, code := range map[string]int{">": c.from, "<": c.to} {
				use := name + mark + strconv.Itoa(c.amount)
				checkCan(t, use, b, moveOf(1, "a", use, "", ""), code)
				uses := strings.Fields("p>5 q<4 r")
				uses[at] = use
				checkCan(t, "one of three, "+use, b, moveOf(1, "a", strings.Join(uses, " "), "", ""), code)
			}
			checkCan(t, "nothing is moved", b, moveOf(1, "a", "p q r", "", ""), 0)
			checkCan(t, "somebody works there", b, permitOf(1, "p q r", ""), 0)
		}
	}
}

func TestPlacesThatAreToBeCleaned(t *testing.T) {
	for _, c := range []struct{ least, most, code int }{{0, 0, 0}, {0, 1, 11}, {1, 1, 11}, {0, 9, 11}, {9, 9, 11}} {
		for _, may := range []string{"", "a", "a b c d e f g h"} {
			for at := range 3 {
				b := impl.ClaimBook{Foes: claimFoes("x/y"), Spots: []impl.ClaimSpot{spot("p", 9, 0, 0, ""), spot("q", 9, 0, 0, "x"), spot("r", 0, 0, 0, "y")}, Valves: []string{"v"}}
				name := b.Spots[at].Name
				b.Spots[at] = spot(name, 9, c.least, c.most, may)
				checkCan(t, "one of three is cleaned", b, cleanOf(1, "p q r", "v"), c.code)
				checkCan(t, "one is cleaned", b, cleanOf(1, name, ""), c.code)
				checkCan(t, "none is cleaned", b, cleanOf(1, "", "v"), 0)
				checkCan(t, "somebody works there", b, permitOf(1, "p q r", "v"), 0)
			}
		}
	}
}

// moveThatMeets is a book, and a move, in which just these reasons are met; from's name is ahead of to's, or behind it.
func moveThatMeets(met map[string]bool, from, to string) (impl.ClaimBook, impl.ClaimWant) {
	b := impl.ClaimBook{Foes: claimFoes(choose(met["stuffs"], "a/b", "a/z")), Valves: []string{"v", "x"}, Seen: choose(met["seen"] || met["other"], 20, 19)}
	b.Spots = []impl.ClaimSpot{
		spot(from, 9, 5, 5, choose(met["may"], "c", "b")),
		spot(to, 9, 4, 4, strings.Join(numbered("m", choose(met["many"], 7, 6)), " ")),
		spot("r", 0, 0, 0, ""),
	}
	slices.SortFunc(b.Spots, func(a, b impl.ClaimSpot) int { return strings.Compare(a.Name, b.Name) })
	b.Parts = granted(permitOf(1, choose(met["used"], from, "r"), choose(met["cross"], "v x", "x")))
	for len(b.Parts) < choose(met["full"], 6, 5)-choose(met["other"], 1, 0) {
		b.Parts = append(b.Parts, granted(permitOf(2+len(b.Parts), "", "x"))...)
	}
	if met["other"] {
		b.Parts = append(b.Parts, granted(permitOf(20, "", "x"))...)
	}
	if met["book"] {
		b.Foes = append(b.Foes, impl.ClaimFoe{A: "a", B: "a"})
	}
	w := moveOf(20, "a b", "", "v", choose(met["want"], "x zz", "x"))
	w.Uses = []impl.ClaimUse{{Name: from, Role: impl.ClaimFrom, Amount: choose(met["least"], 6, 5)}, {Name: to, Role: impl.ClaimTo, Amount: choose(met["most"], 6, 5)}}
	slices.SortFunc(w.Uses, func(a, b impl.ClaimUse) int { return strings.Compare(a.Name, b.Name) })
	return b, w
}

// eachMetReason tells all choices of some reasons, and the code of the first of them.
func eachMetReason(reasons []string, codes []int, tell func(met map[string]bool, code int)) {
	for bits := range 1 << len(reasons) {
		met, code := map[string]bool{}, 0
		for i, reason := range reasons {
			if met[reason] = bits>>i&1 == 1; met[reason] && code == 0 {
				code = codes[i]
			}
		}
		tell(met, code)
	}
}

func TestMovesThatMeetSeveralCodes(t *testing.T) {
	reasons := strings.Fields("book want other seen full used cross stuffs may many least most")
	eachMetReason(reasons, []int{1, 2, 3, 4, 5, 6, 7, 8, 8, 5, 9, 10}, func(met map[string]bool, code int) {
		b, w := moveThatMeets(met, "p", "q")
		checkCan(t, fmt.Sprint(met), b, w, code)
	})
	// Where the other place is the first one, its codes are ahead.
	reasons = strings.Fields("book want other seen full used cross stuffs many may most least")
	eachMetReason(reasons, []int{1, 2, 3, 4, 5, 6, 7, 8, 5, 8, 10, 9}, func(met map[string]bool, code int) {
		b, w := moveThatMeets(met, "q", "p")
		checkCan(t, fmt.Sprint(met), b, w, code)
	})
}

func TestCleansAndPermitsThatMeetSeveralCodes(t *testing.T) {
	reasons := strings.Fields("book want other seen full used cross filled")
	eachMetReason(reasons, []int{1, 2, 3, 4, 5, 6, 7, 11}, func(met map[string]bool, code int) {
		b := impl.ClaimBook{Valves: []string{"v", "x"}, Seen: choose(met["seen"] || met["other"], 20, 19)}
		filled := choose(met["filled"], 1, 0)
		b.Spots = []impl.ClaimSpot{spot("p", 9, 0, 0, "a"), spot("q", 9, 0, filled, "b"), spot("r", 0, 0, 0, "")}
		b.Parts = granted(moveOf(1, "c", "", choose(met["cross"], "v", ""), "x"), permitOf(2, choose(met["used"], "p", "r"), ""))
		for len(b.Parts) < choose(met["full"], 6, 5)-choose(met["other"], 1, 0) {
			b.Parts = append(b.Parts, granted(permitOf(2+len(b.Parts), "", "x"))...)
		}
		if met["other"] {
			b.Parts = append(b.Parts, granted(moveOf(20, "c", "", "", "x"))...)
		}
		if met["book"] {
			b.Valves = append(b.Valves, "a")
		}
		shuts := choose(met["want"], "v zz", "v")
		checkCan(t, fmt.Sprint(met), b, cleanOf(20, "p q", shuts), code)
		checkCan(t, fmt.Sprint(met), b, permitOf(20, "p q", shuts), choose(code == 11, 0, code))
	})
}

func TestGrantsOfNearlyNothing(t *testing.T) {
	checkNotGranted(t, "the empty book knows nothing", impl.ClaimBook{}, permitOf(1, "p", ""), 2)
	checkNotGranted(t, "the empty book knows no valve", impl.ClaimBook{}, permitOf(1, "", "v"), 2)
	b := impl.ClaimBook{Foes: []impl.ClaimFoe{}, Spots: []impl.ClaimSpot{}, Valves: []string{"v"}, Parts: []impl.ClaimPart{}}
	checkGranted(t, "a valve alone", b, impl.ClaimWant{Number: 1, Kind: impl.ClaimPermit, Stuffs: []string{}, Uses: []impl.ClaimUse{}, Opens: []string{}, Shuts: []string{"v"}}, func(*impl.ClaimBook) {})
	b = impl.ClaimBook{Spots: []impl.ClaimSpot{{Name: "p", May: []string{}}}}
	checkGranted(t, "a place alone", b, moveOf(1, "a", "p", "", ""), func(b *impl.ClaimBook) { b.Spots[0].May = []string{"a"} })
}

// checkGrantByReading holds a grant against the second reading of the chapter.
func checkGrantByReading(t *testing.T, what string, b impl.ClaimBook, w impl.ClaimWant) int {
	t.Helper()
	want, code := grantByDefinition(b, w)
	checkGrant(t, what, b, w, want, code)
	if code != 1 && !claimsByDefinition(want) {
		t.Errorf("%s: the book is not ok behind it: %+v", what, want)
	}
	return code
}

func TestAllPairsOfShortWantsGranted(t *testing.T) {
	books := []impl.ClaimBook{
		{Spots: []impl.ClaimSpot{spot("p", 5, 0, 4, "a"), spot("q", 5, 2, 5, "a b")}, Valves: []string{"u", "v"}},
		{Foes: claimFoes("a/b"), Spots: []impl.ClaimSpot{spot("p", 5, 0, 0, "b"), spot("q", 5, 1, 1, "")}, Valves: []string{"u", "v"}},
	}
	codes := map[int]int{}
	for _, b := range books {
		for _, first := range shortWants() {
			after, code := impl.ClaimGrant(b, first)
			if want, is := grantByDefinition(b, first); code != is || !sameClaims(after, want) {
				t.Errorf("ClaimGrant = %+v, %d; want %+v, %d", after, code, want, is)
			}
			codes[code]++
			if code != 0 {
				continue
			}
			for _, second := range shortWants() {
				second.Number = 2
				want, _ := reasonByDefinition(after, second)
				if is := impl.ClaimCode(after, second); is != want {
					t.Errorf("ClaimCode = %d; want %d: %+v in %+v", is, want, second, after)
				}
				codes[want]++
			}
		}
	}
	for _, code := range []int{0, 2, 6, 7, 8, 9, 10, 11} {
		if codes[code] < 3 {
			t.Errorf("code %d: %d times", code, codes[code])
		}
	}
}

func TestAllStuffsOfOnePlace(t *testing.T) {
	stuffs := []string{"a", "b", "c", "d"}
	for bits := range 256 {
		for foes := range 8 {
			for use, amount := range map[string]int{"p": 0, "p>": 2, "p<": 2} {
				b := impl.ClaimBook{Foes: pick(claimFoes("a/b", "a/d", "c/d"), foes), Spots: []impl.ClaimSpot{{Name: "p", Cap: 4, Least: 2, Most: 2, May: pick(stuffs, bits%16)}}}
				w := moveOf(1, strings.Join(pick(stuffs, bits/16), " "), choose(amount > 0, use+"2", use), "", "")
				checkGrantByReading(t, "a place", b, w)
			}
		}
	}
}

func TestAllAmountsOfOnePlace(t *testing.T) {
	for holds := range 4 {
		for most := range holds + 1 {
			for least := range most + 1 {
				b := impl.ClaimBook{Spots: []impl.ClaimSpot{spot("p", holds, least, most, "a")}}
				for amount := range 5 {
					for role := range 5 {
						for kind := range 5 {
							w := impl.ClaimWant{Number: 1, Kind: kind, Stuffs: choose(kind == 1, []string{"a"}, nil), Uses: []impl.ClaimUse{{Name: "p", Role: role, Amount: amount}}}
							checkGrantByReading(t, "a place", b, w)
						}
					}
				}
			}
		}
	}
}

// askedOfFree is wants that are asked of what is free, one for each code from 2 on, and some that are granted.
func askedOfFree() []impl.ClaimWant {
	return []impl.ClaimWant{
		permitOf(8, "none", ""), permitOf(3, "", "v3"), permitOf(7, "", "v3"), permitOf(8, "bin", ""), permitOf(8, "", "v1"), moveOf(8, "ale lye", "", "v4", ""), moveOf(8, "malt", "keg>1", "", ""), moveOf(8, "malt", "pan<1", "", ""),
		moveOf(8, "a b c d e f g h", "keg<1", "", ""), moveOf(8, "ale", "keg>11", "", ""), moveOf(8, "ale", "keg<16", "", ""), cleanOf(8, "keg", ""), cleanOf(8, "pan", ""), freeClaims().Parts[0].Want, freeClaims().Parts[1].Want,
		moveOf(8, "ale malt water", "j keg<15 tun>60 vat<20", "v4", "v2 v5"), permitOf(9, "j keg pan tun vat", "v2 v3 v4 v5"),
	}
}

func TestEachCodeOfWhatIsFree(t *testing.T) {
	var codes []int
	for _, w := range askedOfFree() {
		codes = append(codes, checkGrantByReading(t, "what is free", freeClaims(), w))
	}
	if want := []int{2, 3, 4, 6, 7, 8, 8, 8, 5, 9, 10, 11, 0, 0, 0, 0, 0}; !slices.Equal(codes, want) {
		t.Errorf("codes %v; want %v", codes, want)
	}
}

func TestGrantsOfWhichOneThingIsChanged(t *testing.T) {
	type asked struct {
		Book impl.ClaimBook
		Want impl.ClaimWant
	}
	codes := map[int]int{}
	for i, w := range askedOfFree() {
		from := asked{freeClaims(), w}
		eachWithOneChange(from, []string{"ale", "bin", "j", "keg", "lye", "malt", "v1", "v2", "v4", "zz"}, func(a asked) {
			codes[checkGrantByReading(t, "one thing of "+strconv.Itoa(i), a.Book, a.Want)]++
		})
	}
	for code := range 12 {
		if codes[code] < 10 {
			t.Errorf("code %d: %d times", code, codes[code])
		}
	}
}

func TestGrantsOfWhichTwoThingsAreChanged(t *testing.T) {
	b := impl.ClaimBook{Foes: claimFoes("a/b"), Spots: []impl.ClaimSpot{spot("p", 5, 1, 3, "a"), spot("q", 5, 2, 4, "a")}, Valves: []string{"u", "v"}, Parts: granted(moveOf(1, "a", "p>2", "u", "v")), Seen: 3}
	w := moveOf(4, "a", "q<1", "", "v")
	codes := map[int]int{}
	eachWithOneChange(b, []string{"a", "b", "p", "q", "u", "v"}, func(b impl.ClaimBook) {
		eachWithOneChange(w, []string{"a", "b", "p", "q", "u", "v"}, func(w impl.ClaimWant) {
			want, _ := reasonByDefinition(b, w)
			if is := impl.ClaimCode(b, w); is != want {
				t.Errorf("ClaimCode = %d; want %d: %+v in %+v", is, want, w, b)
			}
			codes[want]++
		})
	})
	for _, code := range []int{0, 1, 2, 3, 4, 6, 7, 8, 9, 10} {
		if codes[code] < 2 {
			t.Errorf("code %d: %d times", code, codes[code])
		}
	}
}

func TestManyGrants(t *testing.T) {
	dice := rand.New(rand.NewSource(23))
	codes := map[int]int{}
	for range 100000 {
		b := someClaimBook(dice)
		if b.Seen%4 > 0 && len(b.Parts) > 1 {
			b.Parts = b.Parts[:1]
		}
		for i := range b.Spots {
			b.Spots[i].Cap = b.Spots[i].Most + dice.Intn(4)
		}
		w := someClaimWant(dice, 1+dice.Intn(14))
		if len(b.Parts) > 0 && dice.Intn(8) == 0 {
			w = copied(b.Parts[dice.Intn(len(b.Parts))].Want)
		}
		want, already := reasonByDefinition(b, w)
		if is := impl.ClaimCode(b, w); is != want {
			t.Errorf("ClaimCode = %d; want %d: %+v in %+v", is, want, w, b)
		}
		if want != 1 && dice.Intn(10) == 0 {
			checkGrantByReading(t, "some grant", b, w)
		}
		codes[choose(already, 100, want)]++
	}
	for _, code := range []int{0, 1, 2, 3, 4, 6, 7, 8, 9, 10, 11, 100} {
		if codes[code] < 100 {
			t.Errorf("code %d: %d times", code, codes[code])
		}
	}
}

// Promise 18, of rows of wants, and promises 15 and 16 of the books to which they lead.
func TestRowsOfWants(t *testing.T) {
	dice := rand.New(rand.NewSource(18))
	grants, refusals, again := 0, 0, 0
	for range 3000 {
		b := someClaimBook(dice)
		b.Parts = nil
		if !impl.ClaimBookOk(b) {
			continue
		}
		var row []impl.ClaimWant
		over, number := map[int]bool{}, b.Seen
		for range 12 {
			w := someClaimWant(dice, number-2+dice.Intn(5))
			if number = max(number, w.Number); len(row) > 0 && dice.Intn(3) == 0 {
				w = row[dice.Intn(len(row))]
			}
			row = append(row, w)
			had := slices.ContainsFunc(b.Parts, func(p impl.ClaimPart) bool { return p.Want.Number == w.Number })
			can := impl.ClaimCode(b, w)
			after, code := impl.ClaimGrant(b, w)
			has := slices.ContainsFunc(after.Parts, func(p impl.ClaimPart) bool { return reflect.DeepEqual(copied(p.Want), copied(w)) })
			if can != code || has != (code == 0) || len(after.Parts) != len(b.Parts)+choose(has && !had, 1, 0) || !claimsByDefinition(after) {
				t.Fatalf("%+v in %+v: %d and %d, %+v", w, b, can, code, after)
			}
			if over[w.Number] && code == 0 {
				t.Fatalf("%+v was refused, and is granted in %+v", w, b)
			}
			over[w.Number] = over[w.Number] || code >= 5
			grants, refusals, again = grants+choose(has && !had, 1, 0), refusals+choose(code >= 5, 1, 0), again+choose(has && had, 1, 0)
			b = after
		}
	}
	if grants < 1000 || refusals < 1000 || again < 1000 {
		t.Errorf("%d were granted, %d refused, %d granted already", grants, refusals, again)
	}
}

// asksOfAllBooks tells books, ok or not, with wants, ok or not.
func asksOfAllBooks(tell func(b impl.ClaimBook, w impl.ClaimWant)) {
	books := append(spoiltClaims()[:5], freeClaims(), impl.ClaimBook{})
	for _, b := range someClaims() {
		books = append(books, b)
	}
	for _, b := range alreadyGranted() {
		books = append(books, b)
	}
	wants := append(askedOfFree(), spoiltWants()...)
	for _, w := range someWants() {
		wants = append(wants, w)
	}
	for _, b := range books {
		for _, w := range wants {
			tell(b, w)
		}
		for _, p := range b.Parts {
			tell(b, p.Want)
		}
	}
}

func TestGrantsLeaveTheirArguments(t *testing.T) {
	asksOfAllBooks(func(book impl.ClaimBook, want impl.ClaimWant) {
		b, w := withRoom(book), withRoom(want)
		wasBook, wasWant := withWhatIsBehind(b), withWhatIsBehind(w)
		code := impl.ClaimCode(b, w)
		first, is := impl.ClaimGrant(b, w)
		checkGrant(t, "a second time", b, w, first, code)
		checkGrant(t, "without room", book, want, first, is)
		if !reflect.DeepEqual(withWhatIsBehind(b), wasBook) || !reflect.DeepEqual(withWhatIsBehind(w), wasWant) {
			t.Errorf("the book became %+v, and the want %+v", withWhatIsBehind(b), withWhatIsBehind(w))
		}
	})
}

func TestBooksBehindGrantsAreNewMemory(t *testing.T) {
	asksOfAllBooks(func(book impl.ClaimBook, want impl.ClaimWant) {
		b, w := withRoom(book), withRoom(want)
		after, code := impl.ClaimGrant(b, w)
		what := fmt.Sprintf("%+v, %d", w, code)
		checkOwnMemory(t, what, after, b, w)
		checkOwnLists(t, what, after, b, w)
	})
	// A want that is given twice lies in one place, and so do its part and its spot in no answer.
	b, w := freeClaims(), moveOf(9, "a-b ale water", "j keg<1 tun>1", "v4", "v5")
	first, _ := impl.ClaimGrant(b, w)
	second, _ := impl.ClaimGrant(b, w)
	third, _ := impl.ClaimGrant(second, w)
	checkOwnMemory(t, "a second answer", second, first, b, w)
	checkOwnLists(t, "a second answer", second, first, b, w)
	checkOwnMemory(t, "an answer to an answer", third, second, w)
	checkOwnLists(t, "an answer to an answer", third, second, w)
}

func TestGrantsOfVeryLongLists(t *testing.T) {
	long := 20000
	var names []string
	for i := range long {
		names = append(names, strconv.Itoa(1000000+i))
	}
	for what, w := range map[string]impl.ClaimWant{
		"stuffs":    {Number: 9, Kind: impl.ClaimMove, Stuffs: names, Shuts: []string{"v3"}},
		"uses":      {Number: 9, Kind: impl.ClaimPermit, Uses: places(strings.Join(names, " "))},
		"opens":     {Number: 9, Kind: impl.ClaimMove, Stuffs: []string{"ale"}, Opens: names},
		"shuts":     {Number: 9, Kind: impl.ClaimPermit, Shuts: names},
		"one place": {Number: 9, Kind: impl.ClaimPermit, Uses: slices.Repeat(places("keg"), long)},
		"one valve": {Number: 9, Kind: impl.ClaimPermit, Shuts: slices.Repeat([]string{"v3"}, long)},
		"one name":  {Number: 9, Kind: impl.ClaimPermit, Shuts: []string{strings.Repeat("v", 1<<20)}},
	} {
		checkNotGranted(t, what, freeClaims(), w, 2)
		b := freeClaims()
		b.Valves = names
		checkNotGranted(t, what+" of many valves", b, w, 1)
		b = freeClaims()
		b.Parts = granted(w, w)
		checkNotGranted(t, what+" as parts", b, w, 1)
	}
	b := freeClaims()
	b.Parts = slices.Repeat(b.Parts, long/2)
	checkNotGranted(t, "many parts", b, permitOf(9, "", "v3"), 1)
}

// What one call was given must not be seen in the next one, nor in one beside it.
func TestGrantsKeepNothing(t *testing.T) {
	b, wants, wrong := freeClaims(), askedOfFree(), spoiltClaims()
	var books []impl.ClaimBook
	var codes []int
	for _, w := range wants {
		after, code := grantByDefinition(b, w)
		books, codes = append(books, after), append(codes, code)
	}
	var callers sync.WaitGroup
	for range 8 {
		callers.Go(func() {
			for i := range 10 {
				for j, w := range wants {
					checkGrant(t, "one beside others", b, w, books[j], codes[j])
					checkGrant(t, "a wrong book between", wrong[(i+j)%len(wrong)], w, impl.ClaimBook{}, 1)
				}
			}
		})
	}
	callers.Wait()
}
