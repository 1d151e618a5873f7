package tests

import (
	"fmt"
	"math"
	"math/rand"
	"reflect"
	"slices"
	"strconv"
	"strings"
	"sync"
	"testing"

	"loop.example/malthouse/impl"
)

func checkStop(t *testing.T, what string, b impl.ClaimBook, number int, want impl.ClaimBook, code int) {
	t.Helper()
	if after, is := impl.ClaimStop(b, number); is != code || !sameClaims(after, want) {
		t.Errorf("%s: ClaimStop of %d = %+v, %d; want %+v, %d: %+v", what, number, after, is, want, code, b)
	}
}

func checkOver(t *testing.T, what string, b impl.ClaimBook, number, moved int, done bool, want impl.ClaimBook, code int) {
	t.Helper()
	if after, is := impl.ClaimOver(b, number, moved, done); is != code || !sameClaims(after, want) {
		t.Errorf("%s: ClaimOver of %d, %d, %v = %+v, %d; want %+v, %d: %+v", what, number, moved, done, after, is, want, code, b)
	}
}

// checkTurns asks under which number a valve may be open, and under which it is kept shut.
func checkTurns(t *testing.T, what string, b impl.ClaimBook, valve string, may int, shut ...int) {
	t.Helper()
	if is := impl.ClaimMay(b, valve); is != may {
		t.Errorf("%s: ClaimMay of %q = %d; want %d: %+v", what, valve, is, may, b)
	}
	if is := impl.ClaimShut(b, valve); !slices.Equal(is, shut) {
		t.Errorf("%s: ClaimShut of %q = %d; want %d: %+v", what, valve, is, shut, b)
	}
}

// checkNotOver asks, done or not, for a code with which the book stays, or is nothing.
func checkNotOver(t *testing.T, what string, b impl.ClaimBook, number, moved int, code int) {
	t.Helper()
	want := choose(code == 1, impl.ClaimBook{}, copied(b))
	checkOver(t, what, b, number, moved, false, want, code)
	checkOver(t, what+", done", b, number, moved, true, want, code)
}

// checkIsOver asks for a book without the part, and with what else is told to have changed.
func checkIsOver(t *testing.T, what string, b impl.ClaimBook, number, moved int, done bool, change func(b *impl.ClaimBook)) {
	t.Helper()
	want := copied(b)
	want.Parts = slices.DeleteFunc(want.Parts, func(p impl.ClaimPart) bool { return p.Want.Number == number })
	change(&want)
	checkOver(t, what, b, number, moved, done, want, 0)
	checkClaims(t, what+", behind it", want, true)
	checkNotOver(t, what+", a second time", want, number, moved, 3)
	checkStop(t, what+", stopped behind it", want, number, want, 3)
}

// stopByDefinition reads the chapter a second time.
func stopByDefinition(b impl.ClaimBook, number int) (impl.ClaimBook, int) {
	if !claimsByDefinition(b) {
		return impl.ClaimBook{}, 1
	}
	after, code := copied(b), 3
	for i, p := range b.Parts {
		if p.Want.Number == number {
			after.Parts[i].Stopped, code = true, 0
		}
	}
	return after, code
}

// overCodeByDefinition reads the codes a second time.
func overCodeByDefinition(b impl.ClaimBook, number, moved int) int {
	if !claimsByDefinition(b) {
		return 1
	}
	for _, p := range b.Parts {
		if p.Want.Number != number {
			continue
		}
		most := math.MaxInt
		for _, u := range p.Want.Uses {
			most = choose(u.Role == 3, most, min(most, u.Amount))
		}
		switch {
		case moved < 0 || moved > most:
			return 2
		case !p.Stopped:
			return 12
		}
		return 0
	}
	return 3
}

// overByDefinition reads the chapter a second time: a place is put back to what it was when nothing was granted, and then so much is moved.
func overByDefinition(b impl.ClaimBook, number, moved int, done bool) (impl.ClaimBook, int) {
	code := overCodeByDefinition(b, number, moved)
	if code > 0 {
		return choose(code == 1, impl.ClaimBook{}, copied(b)), code
	}
	after := copied(b)
	after.Parts = nil
	for _, p := range copied(b).Parts {
		if p.Want.Number != number {
			after.Parts = append(after.Parts, p)
			continue
		}
		for _, u := range p.Want.Uses {
			at := slices.IndexFunc(after.Spots, func(s impl.ClaimSpot) bool { return s.Name == u.Name })
			s := &after.Spots[at]
			switch u.Role {
			case 1:
				s.Least += u.Amount
				s.Least, s.Most = s.Least-moved, s.Most-moved
			case 2:
				s.Most -= u.Amount
				s.Least, s.Most = s.Least+moved, s.Most+moved
			}
			if p.Want.Kind == 2 && done {
				s.May = nil
			}
		}
	}
	return after, 0
}

// turnsByDefinition reads a second time what is told of a valve.
func turnsByDefinition(b impl.ClaimBook, valve string) (may int, shut []int) {
	if !claimsByDefinition(b) {
		return 0, nil
	}
	for _, p := range b.Parts {
		switch turn := turnOf(p.Want, valve); {
		case turn == "open" && !p.Stopped:
			may += p.Want.Number
		case turn == "shut":
			shut = append(shut, p.Want.Number)
		}
	}
	return may, shut
}

func checkOverByReading(t *testing.T, what string, b impl.ClaimBook, number, moved int, done bool) int {
	t.Helper()
	want, code := overByDefinition(b, number, moved, done)
	checkOver(t, what, b, number, moved, done, want, code)
	if code != 1 && !claimsByDefinition(want) {
		t.Errorf("%s: the book is not ok behind it: %+v", what, want)
	}
	return code
}

func checkStopByReading(t *testing.T, what string, b impl.ClaimBook, number int) int {
	t.Helper()
	want, code := stopByDefinition(b, number)
	checkStop(t, what, b, number, want, code)
	return code
}

func checkTurnsByReading(t *testing.T, what string, b impl.ClaimBook, valves ...string) {
	t.Helper()
	for _, valve := range valves {
		may, shut := turnsByDefinition(b, valve)
		checkTurns(t, what, b, valve, may, shut...)
	}
}

// busyClaims has a part of each kind, one that uses places in each role, and one that uses none; a place is nobody's.
func busyClaims(stopped ...int) impl.ClaimBook {
	b := impl.ClaimBook{
		Foes: claimFoes("ale/lye", "lye/malt"),
		Spots: []impl.ClaimSpot{
			spot("bin", 50, 20, 30, "ale malt"), spot("j", 0, 0, 0, "ale malt"), spot("keg", 40, 10, 25, "ale"), spot("pan", 9, 0, 0, "lye"),
			spot("tun", 100, 60, 62, "ale"), spot("vat", 30, 5, 6, "malt"), spot("yard", 1000, 0, 0, "lye water"),
		},
		Valves: strings.Fields("v1 v2 v3 v4 v5 v6 v7"),
		Parts: granted(moveOf(3, "ale malt", "bin<10 j keg>15", "v1 v2", "v3"), cleanOf(5, "pan yard", "v3 v4"),
			permitOf(6, "tun", "v4"), moveOf(8, "water", "", "v5", "v3 v6")),
		Seen: 9,
	}
	for i := range b.Parts {
		b.Parts[i].Stopped = slices.Contains(stopped, b.Parts[i].Want.Number)
	}
	return b
}

// numbersAround is numbers that parts of the busy book have, and others.
func numbersAround() []int {
	return []int{math.MinInt, -8, -1, 0, 1, 2, 3, 4, 5, 6, 7, 8, 9, 10, 11, 1000000, 1000001, 3 + 1<<32, math.MaxInt}
}

func TestPartsThatAreStopped(t *testing.T) {
	for _, stopped := range [][]int{nil, {3}, {5}, {6}, {8}, {3, 6}, {5, 8}, {3, 5, 6, 8}} {
		b := busyClaims(stopped...)
		checkClaims(t, "busy", b, true)
		for _, number := range numbersAround() {
			if !slices.Contains([]int{3, 5, 6, 8}, number) {
				checkStop(t, "no part", b, number, b, 3)
				continue
			}
			want := busyClaims(append(slices.Clone(stopped), number)...)
			checkStop(t, "a part", b, number, want, 0)
			checkStop(t, "stopped already", want, number, want, 0)
		}
	}
	for what, b := range someClaims() {
		for i, p := range b.Parts {
			want := copied(b)
			want.Parts[i].Stopped = true
			checkStop(t, what, b, p.Want.Number, want, 0)
		}
		checkStop(t, what, b, b.Seen+1, b, 3)
		checkStop(t, what, b, 0, b, 3)
	}
}

func TestBooksThatAreNotOkAreNotGoneOnWith(t *testing.T) {
	for i, b := range spoiltClaims() {
		what := "spoilt " + strconv.Itoa(i)
		// Of a number without a part, of what is not stopped, and of what cannot be moved there is another code, too.
		for _, number := range []int{0, 3, 5, 8, 9, math.MaxInt} {
			checkStop(t, what, b, number, impl.ClaimBook{}, 1)
			for _, moved := range []int{math.MinInt, -1, 0, 8, 9, math.MaxInt} {
				checkNotOver(t, what, b, number, moved, 1)
			}
		}
		for _, valve := range append(b.Valves, "", "keg", "v9") {
			checkTurns(t, what, b, valve, 0)
		}
	}
}

func TestOverOfEachRole(t *testing.T) {
	for _, c := range []struct{ least, most, amount, moved, fromLeast, fromMost, toLeast, toMost int }{
		{2, 12, 8, 0, 10, 12, 2, 4}, {2, 12, 8, 1, 9, 11, 3, 5}, {2, 12, 8, 3, 7, 9, 5, 7}, {2, 12, 8, 7, 3, 5, 9, 11}, {2, 12, 8, 8, 2, 4, 10, 12},
		{0, 5, 5, 0, 5, 5, 0, 0}, {0, 5, 5, 2, 3, 3, 2, 2}, {0, 5, 5, 5, 0, 0, 5, 5}, {0, 20, 5, 4, 1, 16, 4, 19}, {19, 20, 1, 0, 20, 20, 19, 19}, {19, 20, 1, 1, 19, 19, 20, 20},
		{0, 20, 20, 0, 20, 20, 0, 0}, {0, 20, 20, 20, 0, 0, 20, 20}, {0, 20, 20, 13, 7, 7, 13, 13}, {3, 4, 1, 0, 4, 4, 3, 3}, {3, 4, 1, 1, 3, 3, 4, 4}, {0, 1, 1, 1, 0, 0, 1, 1},
	} {
		for at := range 3 {
			for _, done := range []bool{false, true} {
				b := impl.ClaimBook{Spots: []impl.ClaimSpot{spot("p", 20, 4, 6, "a"), spot("q", 20, 4, 6, "a"), spot("r", 20, 4, 6, "a")}, Seen: 7}
				name := b.Spots[at].Name
				b.Spots[at] = spot(name, 20, c.least, c.most, "a")
				for mark, settled := range map[string][2]int{">": {c.fromLeast, c.fromMost}, "<": {c.toLeast, c.toMost}} {
					use := name + mark + strconv.Itoa(c.amount)
					b.Parts = []impl.ClaimPart{{Want: moveOf(7, "a", use, "", ""), Stopped: true}}
					change := func(b *impl.ClaimBook) { b.Spots[at] = spot(name, 20, settled[0], settled[1], "a") }
					checkIsOver(t, use, b, 7, c.moved, done, change)
					// The places that nothing is moved out of or into stay.
					uses := strings.Fields("p q r")
					uses[at] = use
					b.Parts[0].Want = moveOf(7, "a", strings.Join(uses, " "), "", "")
					checkIsOver(t, "one of three, "+use, b, 7, c.moved, done, change)
				}
			}
		}
	}
}

func TestOverOfBothRoles(t *testing.T) {
	for moved := range 11 {
		b := busyClaims(3, 8)
		checkIsOver(t, "into the bin, out of the keg", b, 3, moved, moved%2 == 0, func(b *impl.ClaimBook) {
			b.Spots[0], b.Spots[2] = spot("bin", 50, 20+moved, 20+moved, "ale malt"), spot("keg", 40, 25-moved, 25-moved, "ale")
		})
	}
	b := impl.ClaimBook{Spots: []impl.ClaimSpot{spot("m", 1000, 0, 1000, "a"), spot("n", 1000, 0, 999, "a b"), spot("o", 9, 1, 9, "a"), spot("p", 9, 0, 4, "a"), spot("q", 9, 0, 9, "b")}, Seen: 1}
	b.Parts = []impl.ClaimPart{{Want: moveOf(1, "a b", "m>1000 n<999 o>7 p>4 q", "", ""), Stopped: true}}
	checkClaims(t, "the last place lacks a stuff", b, false)
	b.Spots[4].May = []string{"a", "b"}
	checkIsOver(t, "some places at once", b, 1, 3, false, func(b *impl.ClaimBook) {
		b.Spots[0].Least, b.Spots[0].Most = 997, 997
		b.Spots[1].Least, b.Spots[1].Most = 3, 3
		b.Spots[2].Least, b.Spots[2].Most = 5, 6
		b.Spots[3].Least, b.Spots[3].Most = 1, 1
	})
}

func TestHowMuchCanBeMoved(t *testing.T) {
	for uses, most := range map[string]int{
		"p>5": 5, "p<5": 5, "p>1": 1, "p<1": 1, "p>20": 20, "p<20": 20, "p>5 q<3": 3, "p>3 q<5": 3, "p<5 q>3": 3, "p<3 q>5": 3, "p>5 q<5": 5, "p>4 q>5": 4, "p<5 q<4": 4, "p>5 q<6 r<4": 4, "p>5 q<6 r<7": 5, "p>5 q<4 r>7": 4,
		"p q>3 r": 3, "p>3 q r": 3, "p q r<3": 3, "p": math.MaxInt, "p q r": math.MaxInt, "": math.MaxInt,
	} {
		b := impl.ClaimBook{Spots: []impl.ClaimSpot{spot("p", 20, 0, 20, "a"), spot("q", 20, 0, 20, "a"), spot("r", 20, 0, 20, "a")}, Valves: []string{"v"}, Seen: 1}
		b.Parts = []impl.ClaimPart{{Want: moveOf(1, "a", uses, "v", ""), Stopped: true}}
		checkClaims(t, uses, b, true)
		for _, moved := range []int{math.MinInt, -1 << 32, -1000, -2, -1} {
			checkNotOver(t, uses, b, 1, moved, 2)
		}
		for _, moved := range []int{0, 1, most / 2, most - 1, most} {
			if code := checkOverByReading(t, uses, b, 1, moved, false); code != 0 {
				t.Errorf("%s with %d moved: %d", uses, moved, code)
			}
		}
		for _, more := range []int{most + 1, most + 2, 1000, 1001, 1 << 32, math.MaxInt} {
			if more > most {
				checkNotOver(t, uses, b, 1, more, 2)
			}
		}
		b.Parts[0].Stopped = false
		for _, moved := range []int{0, 1, most} {
			checkNotOver(t, uses+", not stopped", b, 1, moved, 12)
		}
		for _, moved := range []int{-1, math.MinInt} {
			checkNotOver(t, uses+", not stopped", b, 1, moved, 2)
		}
	}
}

// By nothing but places that are passed, and by no places, anything may have been moved, and it is nowhere to be seen.
func TestOverOfNoAmounts(t *testing.T) {
	for _, w := range []impl.ClaimWant{moveOf(2, "a", "p q", "u", "v"), moveOf(2, "a", "", "u", "v"), moveOf(2, "a", "", "", "v"), cleanOf(2, "p", "v"), cleanOf(2, "", "v"), permitOf(2, "p q", "v"), permitOf(2, "", "v")} {
		b := impl.ClaimBook{Spots: []impl.ClaimSpot{spot("p", 9, 0, 0, "a"), spot("q", 9, 2, 5, "a")}, Valves: []string{"u", "v"}, Parts: []impl.ClaimPart{{Want: w, Stopped: true}}, Seen: 2}
		for _, moved := range []int{0, 1, 5, 9, 10, 1000, 1001, math.MaxInt} {
			checkIsOver(t, "nothing to be moved", b, 2, moved, false, func(*impl.ClaimBook) {})
			checkIsOver(t, "nothing to be moved, done", b, 2, moved, true, func(b *impl.ClaimBook) {
				if w.Kind == impl.ClaimClean && len(w.Uses) > 0 {
					b.Spots[0].May = nil
				}
			})
		}
		checkNotOver(t, "less than nothing", b, 2, -1, 2)
	}
}

func TestOverOfCleans(t *testing.T) {
	for _, may := range []string{"", "a", "a b", "a b c d e f g h"} {
		for uses, cleaned := range map[string][]int{"": nil, "p": {0}, "q": {1}, "r": {2}, "p q": {0, 1}, "p r": {0, 2}, "p q r": {0, 1, 2}} {
			for _, moved := range []int{0, 7, math.MaxInt} {
				b := impl.ClaimBook{Spots: []impl.ClaimSpot{spot("p", 9, 0, 0, may), spot("q", 0, 0, 0, may), spot("r", 1000, 0, 0, may), spot("s", 9, 0, 0, may)}, Valves: []string{"v"}, Seen: 4}
				b.Parts = []impl.ClaimPart{{Want: cleanOf(4, uses, "v"), Stopped: true}}
				checkIsOver(t, uses+" done", b, 4, moved, true, func(b *impl.ClaimBook) {
					for _, at := range cleaned {
						b.Spots[at].May = nil
					}
				})
				checkIsOver(t, uses+" not done", b, 4, moved, false, func(*impl.ClaimBook) {})
				b.Parts[0].Want.Kind = impl.ClaimPermit
				checkIsOver(t, uses+" worked at", b, 4, moved, true, func(*impl.ClaimBook) {})
			}
		}
	}
	// What is moved out of a place, or into it, is left there, all of it moved or none.
	b := busyClaims(3)
	for _, moved := range []int{0, 10} {
		after, code := impl.ClaimOver(b, 3, moved, true)
		for i, s := range after.Spots {
			if code != 0 || !slices.Equal(s.May, b.Spots[i].May) {
				t.Errorf("%d, %+v", code, s)
			}
		}
	}
}

func TestOverOfOnePartOfMany(t *testing.T) {
	b := busyClaims(3, 5, 6, 8)
	checkIsOver(t, "the clean", b, 5, 0, true, func(b *impl.ClaimBook) { b.Spots[3].May, b.Spots[6].May = nil, nil })
	checkIsOver(t, "the clean that is not done", b, 5, 0, false, func(*impl.ClaimBook) {})
	checkIsOver(t, "the permit", b, 6, 0, true, func(*impl.ClaimBook) {})
	checkIsOver(t, "the move by no places", b, 8, 4, true, func(*impl.ClaimBook) {})
	for _, number := range numbersAround() {
		if slices.Contains([]int{3, 5, 6, 8}, number) {
			continue
		}
		for _, moved := range []int{-1, 0, 1, 11, math.MaxInt} {
			checkNotOver(t, "no part", b, number, moved, 3)
		}
	}
	for _, number := range []int{3, 5, 6, 8} {
		others := slices.DeleteFunc([]int{3, 5, 6, 8}, func(n int) bool { return n == number })
		checkNotOver(t, "the others are stopped", busyClaims(others...), number, 0, 12)
		checkOverByReading(t, "the others are not stopped", busyClaims(number), number, 0, true)
	}
	full := fullClaims()
	for i, p := range full.Parts {
		full.Parts[i].Stopped = true
		for _, moved := range []int{-1, 0, 1, 999, 1000, 1001} {
			code := checkOverByReading(t, "one of as many as may be", full, p.Want.Number, moved, moved == 0)
			if code != choose(moved < 0 || moved > 1000, 2, 0) {
				t.Errorf("%d moved: %d", moved, code)
			}
		}
		checkIsOver(t, "half of all there can be", full, p.Want.Number, 500, true, func(b *impl.ClaimBook) {
			b.Spots[i].Least, b.Spots[i].Most = 500, 500
		})
	}
}

// Whichever is over first, all places are the same behind it.
func TestOverInAnyOrder(t *testing.T) {
	want := busyClaims()
	want.Parts = nil
	want.Spots[0], want.Spots[2] = spot("bin", 50, 24, 24, "ale malt"), spot("keg", 40, 21, 21, "ale")
	want.Spots[3].May, want.Spots[6].May = nil, nil
	orders := 0
	eachOf([]int{3, 5, 6, 8}, 4, func(order []int) {
		if len(order) < 4 || len(slices.Compact(slices.Sorted(slices.Values(order)))) < 4 {
			return
		}
		orders++
		b := busyClaims()
		for _, number := range order {
			b, _ = impl.ClaimStop(b, number)
			b, _ = impl.ClaimOver(b, number, 4, true)
		}
		if !sameClaims(b, want) {
			t.Errorf("%v: %+v; want %+v", order, b, want)
		}
	})
	if orders != 24 {
		t.Errorf("%d orders", orders)
	}
}

func TestOverThatMeetsSeveralCodes(t *testing.T) {
	reasons := strings.Fields("book part below above running")
	eachMetReason(reasons, []int{1, 3, 2, 2, 12}, func(met map[string]bool, code int) {
		if met["below"] && met["above"] || met["part"] && met["above"] {
			return
		}
		for _, uses := range []string{"p>5 q<9", "p<9 q>5", "p q>5", "p<5 q"} {
			b := impl.ClaimBook{Spots: []impl.ClaimSpot{spot("p", 9, 0, 9, "a"), spot("q", 9, 0, 9, "a")}, Valves: []string{"u", "v"}, Seen: 3}
			b.Parts = []impl.ClaimPart{{Want: moveOf(2, "a", uses, "u", "v"), Stopped: !met["running"]}, {Want: permitOf(3, "", "v"), Stopped: met["running"]}}
			if met["book"] {
				b.Seen = 2
			}
			moved := choose(met["above"], 6, choose(met["below"], -1, 5))
			number := choose(met["part"], 4, 2)
			what := fmt.Sprint(met)
			if checkStop(t, what, b, number, choose(met["book"], impl.ClaimBook{}, stopped(b, number)), choose(met["book"], 1, choose(met["part"], 3, 0))); code != 0 {
				checkNotOver(t, what, b, number, moved, code)
			} else if is := checkOverByReading(t, what, b, number, moved, true); is != 0 {
				t.Errorf("%s: %d", what, is)
			}
		}
	})
}

// stopped is a book in which the part of a number, if there is one, is stopped.
func stopped(b impl.ClaimBook, number int) impl.ClaimBook {
	after := copied(b)
	for i := range after.Parts {
		after.Parts[i].Stopped = after.Parts[i].Stopped || after.Parts[i].Want.Number == number
	}
	return after
}

func TestValvesThatMayBeOpenOrAreKeptShut(t *testing.T) {
	for _, c := range []struct {
		valve string
		may   int
		shut  []int
	}{
		{"v1", 3, nil}, {"v2", 3, nil}, {"v3", 0, []int{3, 5, 8}}, {"v4", 0, []int{5, 6}}, {"v5", 8, nil}, {"v6", 0, []int{8}}, {"v7", 0, nil},
		{"", 0, nil}, {"v", 0, nil}, {"v11", 0, nil}, {"v8", 0, nil}, {"V1", 0, nil}, {"v1 ", 0, nil}, {"v1\x00", 0, nil}, {"bin", 0, nil}, {"ale", 0, nil}, {"\xff", 0, nil}, {strings.Repeat("v1", 1<<20), 0, nil},
	} {
		for bits := range 16 {
			gone := pick([]int{3, 5, 6, 8}, bits)
			b := busyClaims(gone...)
			checkTurns(t, fmt.Sprint(gone), b, c.valve, choose(slices.Contains(gone, c.may), 0, c.may), c.shut...)
			// With no part there is nobody who could open it or keep it shut.
			b.Parts = nil
			checkTurns(t, "no parts", b, c.valve, 0)
		}
	}
	checkTurns(t, "the empty book", impl.ClaimBook{}, "", 0)
	checkTurns(t, "the empty book", impl.ClaimBook{}, "v1", 0)
	full := fullClaims()
	for i, valve := range full.Valves {
		if i < 6 {
			checkTurns(t, "one of all", full, valve, choose(i%3 == 0, 0, 999995+i))
		} else {
			checkTurns(t, "what all keep shut", full, valve, 0, 999995, 999996, 999997, 999998, 999999, 1000000)
		}
	}
	// A place, and a stuff, of a valve's name is another thing.
	b := impl.ClaimBook{Spots: []impl.ClaimSpot{spot("u", 9, 0, 9, "v")}, Valves: []string{"u", "v"}, Parts: granted(moveOf(4, "v", "u>1", "v", "")), Seen: 4}
	checkTurns(t, "a place", b, "u", 0)
	checkTurns(t, "a stuff", b, "v", 4)
}

// Of what is stopped and over a valve is told step by step.
func TestValvesStepByStep(t *testing.T) {
	b := impl.ClaimBook{Valves: []string{"u", "v"}}
	b, _ = impl.ClaimGrant(b, moveOf(2, "a", "", "u", "v"))
	b, _ = impl.ClaimGrant(b, permitOf(5, "", "v"))
	checkTurns(t, "granted", b, "u", 2)
	checkTurns(t, "granted", b, "v", 0, 2, 5)
	if _, code := impl.ClaimGrant(b, moveOf(6, "a", "", "v", "")); code != 7 {
		t.Errorf("code %d", code)
	}
	b, _ = impl.ClaimStop(b, 2)
	checkTurns(t, "stopped", b, "u", 0)
	checkTurns(t, "stopped", b, "v", 0, 2, 5)
	// As long as it is not over, nobody else opens what it could open.
	if _, code := impl.ClaimGrant(b, moveOf(6, "a", "", "u", "")); code != 7 {
		t.Errorf("code %d", code)
	}
	b, _ = impl.ClaimOver(b, 2, 0, false)
	checkTurns(t, "over", b, "u", 0)
	checkTurns(t, "over", b, "v", 0, 5)
	b, _ = impl.ClaimGrant(b, moveOf(6, "a", "", "u", ""))
	checkTurns(t, "another one", b, "u", 6)
	b, _ = impl.ClaimStop(b, 5)
	b, _ = impl.ClaimOver(b, 5, 0, true)
	checkTurns(t, "nobody keeps it shut", b, "v", 0)
	b, _ = impl.ClaimGrant(b, moveOf(7, "a", "", "v", ""))
	checkTurns(t, "it is opened", b, "v", 7)
}

func TestOverOfNearlyNothing(t *testing.T) {
	for _, b := range []impl.ClaimBook{{}, {Foes: []impl.ClaimFoe{}, Spots: []impl.ClaimSpot{}, Valves: []string{}, Parts: []impl.ClaimPart{}}, {Seen: 9}} {
		for _, number := range numbersAround() {
			checkStop(t, "no parts", b, number, b, 3)
			checkNotOver(t, "no parts", b, number, 0, 3)
			checkNotOver(t, "no parts", b, number, -1, 3)
		}
	}
	b := impl.ClaimBook{Spots: []impl.ClaimSpot{{Name: "p", May: []string{}}}, Parts: []impl.ClaimPart{{Want: impl.ClaimWant{Number: 1, Kind: impl.ClaimClean, Stuffs: []string{}, Uses: places("p"), Opens: []string{}, Shuts: []string{}}, Stopped: true}}, Seen: 1}
	checkIsOver(t, "nothing may be left there", b, 1, 0, true, func(*impl.ClaimBook) {})
}

func TestAllAmountsThatAreOver(t *testing.T) {
	codes := map[int]int{}
	for kind := 1; kind <= 3; kind++ {
		for role := 1; role <= 3; role++ {
			for amount := range 4 {
				for bits := range 40 {
					least, most := bits%4, bits/4%5-1
					for moved := -1; moved <= 4; moved++ {
						for _, isStopped := range []bool{false, true} {
							w := impl.ClaimWant{Number: 1, Kind: kind, Stuffs: choose(kind == 1, []string{"a"}, nil), Uses: []impl.ClaimUse{{Name: "p", Role: role, Amount: amount}}}
							b := impl.ClaimBook{Spots: []impl.ClaimSpot{{Name: "p", Cap: 3, Least: least, Most: most, May: []string{"a"}}}, Parts: []impl.ClaimPart{{Want: w, Stopped: isStopped}}, Seen: 1}
							codes[checkOverByReading(t, "an amount", b, 1, moved, bits >= 20)]++
						}
					}
				}
			}
		}
	}
	for _, code := range []int{0, 1, 2, 12} {
		if codes[code] < 10 {
			t.Errorf("code %d: %d times", code, codes[code])
		}
	}
}

func TestAllPairsOfShortWantsThatAreOver(t *testing.T) {
	b := impl.ClaimBook{Spots: []impl.ClaimSpot{spot("p", 5, 0, 5, "a"), spot("q", 5, 2, 3, "a")}, Valves: []string{"u", "v"}, Seen: 2}
	for _, first := range shortWants() {
		for i, second := range shortWants() {
			b.Parts = granted(first, second)
			b.Parts[1].Want.Number = 2
			b.Parts[0].Stopped, b.Parts[1].Stopped = i%2 == 0, i%3 == 0
			if !claimsByDefinition(b) {
				continue
			}
			for number := range 4 {
				checkStopByReading(t, "one of two", b, number)
				checkOverByReading(t, "one of two", b, number, i%5-1, i%7 < 4)
			}
			checkTurnsByReading(t, "two", b, "u", "v", "w")
		}
	}
}

func TestOverOfWhichOneThingIsChanged(t *testing.T) {
	type asked struct {
		Book   impl.ClaimBook
		Number int
		Moved  int
		Done   bool
	}
	codes := map[int]int{}
	for i, from := range []asked{{busyClaims(3, 5), 3, 4, true}, {busyClaims(3, 5), 5, 0, true}, {busyClaims(6), 6, 0, false}, {busyClaims(8), 8, 1, true}, {busyClaims(), 3, 10, false}} {
		eachWithOneChange(from, []string{"ale", "bin", "j", "keg", "lye", "malt", "v1", "v2", "v4", "zz"}, func(a asked) {
			what := "one thing of " + strconv.Itoa(i)
			codes[checkOverByReading(t, what, a.Book, a.Number, a.Moved, a.Done)]++
			checkStopByReading(t, what, a.Book, a.Number)
			checkTurnsByReading(t, what, a.Book, "v1", "v4", "zz")
		})
	}
	for _, code := range []int{0, 1, 2, 3, 12} {
		if codes[code] < 10 {
			t.Errorf("code %d: %d times", code, codes[code])
		}
	}
}

func TestManyThatAreOver(t *testing.T) {
	dice := rand.New(rand.NewSource(24))
	codes := map[int]int{}
	for range 40000 {
		b := someClaimBook(dice)
		if !impl.ClaimBookOk(b) && dice.Intn(20) > 0 {
			continue
		}
		number, moved := dice.Intn(9), dice.Intn(5)-1
		if len(b.Parts) > 0 && dice.Intn(4) > 0 {
			number = b.Parts[dice.Intn(len(b.Parts))].Want.Number
		}
		codes[checkOverByReading(t, "some part", b, number, moved, dice.Intn(2) == 0)]++
		checkStopByReading(t, "some part", b, number)
		checkTurnsByReading(t, "some book", b, "u", "v", "w", "x", "y")
	}
	for _, code := range []int{0, 1, 2, 3, 12} {
		if codes[code] < 50 {
			t.Errorf("code %d: %d times", code, codes[code])
		}
	}
}

// endsOfAllBooks tells books, ok or not, with numbers and amounts.
func endsOfAllBooks(tell func(b impl.ClaimBook, number, moved int, done bool)) {
	books := append(spoiltClaims()[:5], busyClaims(), busyClaims(3, 5, 6, 8), impl.ClaimBook{})
	for _, b := range someClaims() {
		books = append(books, b)
		for _, p := range b.Parts {
			b = stopped(b, p.Want.Number)
		}
		books = append(books, b)
	}
	for _, b := range books {
		numbers := []int{0, b.Seen + 1}
		for _, p := range b.Parts {
			numbers = append(numbers, p.Want.Number)
		}
		for _, number := range numbers {
			for _, moved := range []int{-1, 0, 1, 8, 11} {
				tell(b, number, moved, false)
				tell(b, number, moved, true)
			}
		}
	}
}

func TestEndsLeaveTheirArguments(t *testing.T) {
	endsOfAllBooks(func(book impl.ClaimBook, number, moved int, done bool) {
		b := withRoom(book)
		was := withWhatIsBehind(b)
		first, code := impl.ClaimStop(b, number)
		checkStop(t, "a second time", b, number, first, code)
		checkStop(t, "without room", book, number, first, code)
		first, code = impl.ClaimOver(b, number, moved, done)
		checkOver(t, "a second time", b, number, moved, done, first, code)
		checkOver(t, "without room", book, number, moved, done, first, code)
		for _, valve := range append(slices.Clone(b.Valves), "none") {
			checkTurns(t, "without room", book, valve, impl.ClaimMay(b, valve), impl.ClaimShut(b, valve)...)
		}
		if !reflect.DeepEqual(withWhatIsBehind(b), was) {
			t.Errorf("the book became %+v", withWhatIsBehind(b))
		}
	})
}

func TestBooksBehindEndsAreNewMemory(t *testing.T) {
	endsOfAllBooks(func(book impl.ClaimBook, number, moved int, done bool) {
		b := withRoom(book)
		halted, code := impl.ClaimStop(b, number)
		checkOwnMemory(t, fmt.Sprint("ClaimStop ", code), halted, b)
		checkOwnLists(t, fmt.Sprint("ClaimStop ", code), halted, b)
		after, code := impl.ClaimOver(b, number, moved, done)
		checkOwnMemory(t, fmt.Sprint("ClaimOver ", code), after, b, halted)
		checkOwnLists(t, fmt.Sprint("ClaimOver ", code), after, b, halted)
	})
	for _, valve := range []string{"v3", "v4", "v6"} {
		b := busyClaims()
		first, second := impl.ClaimShut(b, valve), impl.ClaimShut(b, valve)
		checkOwnLists(t, "ClaimShut", first, second, b)
		for i := range first[:cap(first)] {
			first[:cap(first)][i] = -1
		}
		checkTurnsByReading(t, "behind an answer that was written into", b, valve)
	}
}

func TestEndsOfVeryLongLists(t *testing.T) {
	long := 20000
	names := numbered("v", long)
	b := busyClaims(3)
	b.Valves = names
	c := busyClaims(3)
	c.Parts = slices.Repeat(c.Parts, long)
	d := busyClaims(3)
	d.Parts[0].Want.Opens = names
	e := busyClaims(3)
	e.Parts[0].Want.Uses = slices.Repeat(e.Parts[0].Want.Uses, long)
	for _, b := range []impl.ClaimBook{b, c, d, e} {
		checkStop(t, "a long list", b, 3, impl.ClaimBook{}, 1)
		checkNotOver(t, "a long list", b, 3, 1, 1)
		checkTurns(t, "a long list", b, "v1", 0)
	}
}

// What one call was given must not be seen in the next one, nor in one beside it.
func TestEndsKeepNothing(t *testing.T) {
	b, wrong := busyClaims(3, 5), spoiltClaims()
	small, _ := overByDefinition(b, 3, 4, true)
	clean, _ := overByDefinition(b, 5, 4, true)
	halted, _ := stopByDefinition(b, 8)
	var callers sync.WaitGroup
	for range 8 {
		callers.Go(func() {
			for i := range 20 {
				checkOver(t, "one beside others", b, 3, 4, true, small, 0)
				checkStop(t, "one beside others", b, 8, halted, 0)
				checkTurns(t, "one beside others", b, "v5", 8)
				checkOver(t, "a wrong book between", wrong[i%len(wrong)], 3, 4, true, impl.ClaimBook{}, 1)
				checkOver(t, "one beside others", b, 5, 4, true, clean, 0)
				checkTurns(t, "one beside others", b, "v3", 0, 3, 5, 8)
				checkOver(t, "one beside others", b, 6, 0, true, b, 12)
				checkOver(t, "one beside others", b, 3, 11, true, b, 2)
			}
		})
	}
	callers.Wait()
}
