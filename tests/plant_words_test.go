package tests

import (
	"slices"
	"strings"
	"testing"
	"unsafe"

	"loop.example/malthouse/impl"
)

// letters is n words of one byte each.
func letters(n int) []string {
	return strings.Split("abcdefghijklmnopqrstuvwxyz"[:n], "")
}

func checkWords(t *testing.T, line string, want []string) {
	t.Helper()
	got, ok := impl.PlantWords(line)
	if !ok || !slices.Equal(got, want) {
		t.Errorf("PlantWords(%q) = %q, %v; want %q, true", line, got, ok, want)
	}
}

func checkRefused(t *testing.T, line string) {
	t.Helper()
	got, ok := impl.PlantWords(line)
	if ok || len(got) != 0 {
		t.Errorf("PlantWords(%q) = %q, %v; want nothing, false", line, got, ok)
	}
}

func TestWordsOfOrdinaryLines(t *testing.T) {
	checkWords(t, "stuff ale", []string{"stuff", "ale"})
	checkWords(t, "vessel keg 40 east", []string{"vessel", "keg", "40", "east"})
	checkWords(t, "x", []string{"x"})
	checkWords(t, "!\"$%&'()*+,-./:;<=>?@[\\]", []string{"!\"$%&'()*+,-./:;<=>?@[\\]"})
	checkWords(t, "^_` {|}~ AZ", []string{"^_`", "{|}~", "AZ"})
}

func TestWordsAndSpaces(t *testing.T) {
	for _, line := range []string{"", " ", "      "} {
		checkWords(t, line, nil)
	}
	for _, line := range []string{"a bc", " a bc", "a bc ", "a  bc", "   a     bc   "} {
		checkWords(t, line, []string{"a", "bc"})
	}
	checkWords(t, strings.Repeat(" ", 10000)+"a"+strings.Repeat(" ", 10000), []string{"a"})
}

func TestWordsAheadOfHash(t *testing.T) {
	for _, line := range []string{"#", "##", "# a b", "  #a", "#\x00", "#\xff\xfe", "#" + strings.Repeat("a ", 1000)} {
		checkWords(t, line, nil)
	}
	for _, line := range []string{"ab#", "ab #", "ab#cd", "ab # cd", "ab#cd#ef", "ab ## c", "ab#\t\n\x00\x7f\x80\xc3", "ab#" + strings.Repeat("x", 10000), "ab #é €"} {
		checkWords(t, line, []string{"ab"})
	}
	for _, line := range []string{"a\x00#", "\x7f#b", "a \xff # b", strings.Repeat("x", impl.PlantMaxWord+1) + "#"} {
		checkRefused(t, line)
	}
	for c := range 256 {
		checkWords(t, "ab c#"+string([]byte{byte(c)}), []string{"ab", "c"})
	}
}

func TestWordsAsLongAsTheyMayBe(t *testing.T) {
	longest := strings.Repeat("w", impl.PlantMaxWord)
	for _, line := range []string{longest, " " + longest, longest + " ", longest + "#x", " " + longest + " # x"} {
		checkWords(t, line, []string{longest})
	}
	checkWords(t, longest+" "+longest, []string{longest, longest})
	for _, line := range []string{"x" + longest, " x" + longest, longest + "x ", "a " + longest + "x", longest + "x#", longest + "x a", longest + longest} {
		checkRefused(t, line)
	}
}

func TestWordsAsManyAsTheyMayBe(t *testing.T) {
	most := letters(impl.PlantMaxWords)
	line := strings.Join(most, " ")
	for _, l := range []string{line, " " + line, line + "  ", strings.Join(most, "   "), line + "#q", line + " # q r s"} {
		checkWords(t, l, most)
	}
	for _, l := range []string{line + " q", line + " q ", line + " q#", line + " q r s", " " + line + "  q"} {
		checkRefused(t, l)
	}
	long := slices.Repeat([]string{strings.Repeat("z", impl.PlantMaxWord)}, impl.PlantMaxWords)
	checkWords(t, strings.Join(long, " "), long)
	checkRefused(t, strings.Join(long, " ")+" z")
}

func TestWordsOfEachByte(t *testing.T) {
	for c := range 256 {
		b := string([]byte{byte(c)})
		switch {
		case c == ' ':
			checkWords(t, b, nil)
			checkWords(t, "a"+b+"a", []string{"a", "a"})
		case c == '#':
			checkWords(t, b, nil)
			checkWords(t, "a"+b+"a", []string{"a"})
		case c >= 33 && c <= 126:
			checkWords(t, b, []string{b})
			checkWords(t, "a"+b+"a", []string{"a" + b + "a"})
			checkWords(t, "a "+b, []string{"a", b})
		default:
			for _, line := range []string{b, "a" + b, b + "a", "a" + b + "a", "a " + b + " a", b + "#"} {
				checkRefused(t, line)
			}
		}
	}
}

func TestWordsOfMoreThanBytes(t *testing.T) {
	for _, line := range []string{"é", "a é", "€ b", "a\u00a0b", "a\u2003b", "a\u3000", "\ufffd", "\U0001f37a", "\xc3", "a\xc3 b", "\xe2\x82", "\xff\xfe", "\xed\xa0\x80", "\xf4\x90\x80\x80", "\xc0\xa0", "\xc0\xa3", "\ufeffa", "a\r", "a\nb", "a\vb", "a\fb", "\x85"} {
		checkRefused(t, line)
	}
}

// wordsByDefinition reads bytes, not runes, and judges words behind cutting them.
func wordsByDefinition(line string) ([]string, bool) {
	var words []string
	word := ""
	for i := 0; i <= len(line); i++ {
		if i == len(line) || line[i] == '#' || line[i] == ' ' {
			if word != "" {
				words = append(words, word)
			}
			word = ""
			if i == len(line) || line[i] == '#' {
				break
			}
			continue
		}
		if line[i] < 33 || line[i] > 126 {
			return nil, false
		}
		word += line[i : i+1]
	}
	for _, w := range words {
		if len(w) > impl.PlantMaxWord {
			return nil, false
		}
	}
	if len(words) > impl.PlantMaxWords {
		return nil, false
	}
	return words, true
}

// eachLine tells all lines of at most so many pieces.
func eachLine(pieces []string, most int, tell func(line string)) {
	var walk func(line string, left int)
	walk = func(line string, left int) {
		tell(line)
		if left == 0 {
			return
		}
		for _, p := range pieces {
			walk(line+p, left-1)
		}
	}
	walk("", most)
}

func TestWordsOfAllShortLines(t *testing.T) {
	bytes := []string{"a", "~", " ", "#", "\x1f", "\x7f", "\xc3", "\xa9"}
	lumps := []string{" ", "a", "#", "   ", strings.Repeat("b", impl.PlantMaxWord), strings.Repeat("c ", impl.PlantMaxWords-1), "d d"}
	for _, pieces := range [][]string{bytes, lumps} {
		eachLine(pieces, 5, func(line string) {
			want, ok := wordsByDefinition(line)
			if ok {
				checkWords(t, line, want)
			} else {
				checkRefused(t, line)
			}
		})
	}
}

// Promise 1.
func TestWordsWrittenAgainAreTheSame(t *testing.T) {
	behind := []string{"", " ", "#", " #", "#a b", " # # #", "#\x00\x7f\xff", "#\n", " #é\xc3", "#" + strings.Repeat("w ", 100)}
	pieces := []string{"a", "!~", " ", "   ", "#", strings.Repeat("b", impl.PlantMaxWord-1), strings.Repeat(" c", impl.PlantMaxWords-2)}
	seen := 0
	eachLine(pieces, 5, func(line string) {
		words, ok := impl.PlantWords(line)
		if !ok {
			return
		}
		seen = max(seen, len(words))
		for _, b := range behind {
			checkWords(t, strings.Join(words, " ")+b, words)
		}
	})
	if seen != impl.PlantMaxWords {
		t.Errorf("lines of at most %d words were looked at", seen)
	}
}

func TestWordsAreNewMemory(t *testing.T) {
	line := strings.Clone("one two  three#four")
	from := uintptr(unsafe.Pointer(unsafe.StringData(line)))
	first, _ := impl.PlantWords(line)
	second, _ := impl.PlantWords(line)
	for _, w := range first {
		at := uintptr(unsafe.Pointer(unsafe.StringData(w)))
		if at >= from && at < from+uintptr(len(line)) {
			t.Errorf("%q lies in the line", w)
		}
	}
	whole := first[:cap(first)]
	for i := range whole {
		whole[i] = "changed"
	}
	if want := []string{"one", "two", "three"}; !slices.Equal(second, want) {
		t.Errorf("a second answer became %q", second)
	}
	checkWords(t, line, []string{"one", "two", "three"})
}
