package lat_test

import (
	"slices"
	"strings"
	"testing"

	"chancel/api"
	"chancel/lat"
)

// P1.4: a lattice to the letter.
func TestPrint(t *testing.T) {
	for text, l := range map[string]lat.Lat{
		"A\n1\n":                            {Names: []string{"A"}, Up: []uint64{1}},
		"Lo Hi\n11\n01\n":                   {Names: []string{"Lo", "Hi"}, Up: []uint64{3, 2}},
		"Hi Lo\n10\n11\n":                   {Names: []string{"Hi", "Lo"}, Up: []uint64{1, 3}},
		"L A B H\n1111\n0101\n0011\n0001\n": {Names: []string{"L", "A", "B", "H"}, Up: []uint64{15, 10, 12, 8}},
		"":                                  {Names: []string{"A", "B"}, Up: []uint64{1, 2}},
	} {
		if got := lat.Print(l); got != text {
			t.Errorf("%q", got)
		}
	}
}

// P1.4, P1.5: what is printed is parsed, in memory of its own.
func TestPrintParse(t *testing.T) {
	for name, l := range samples() {
		text := lat.Print(l)
		one, e := lat.Parse(text)
		if text != modelText(l) || e != api.OK || !slices.Equal(one.Names, l.Names) || !slices.Equal(one.Up, l.Up) || !lat.Right(one) || lat.Print(one) != text {
			t.Fatal(name, e)
		}
		one.Names[0], one.Up[0] = "", 0
		if two, _ := lat.Parse(text); !slices.Equal(two.Names, l.Names) || !slices.Equal(two.Up, l.Up) {
			t.Error(name, "shared")
		}
	}
}

// P1.4: each error, and which comes ahead of which.
func TestParseErrors(t *testing.T) {
	long := strings.Repeat("a", api.MaxName)
	most := lat.Print(chain(64))
	for want, texts := range map[api.Errno][]string{
		api.OK: {"A\n1\n", "A B\n11\n01\n", "B A\n10\n11\n", long + "\n1\n", most},
		api.ErrLimit: {
			strings.Repeat(" ", 64), strings.Repeat(" ", 64) + "\n", strings.Repeat("A ", 64) + "A", strings.Repeat("A ", 64) + "\n1\n", strings.Join(names(64), " ") + " \n", strings.Repeat("?? ", 1000),
			strings.Join(names(65), " ") + "\n" + strings.Repeat(strings.Repeat("1", 65)+"\n", 65),
		},
		api.ErrParse: {
			"", "\n", " ", " \n", "\n\n", "A", "A ", "A B", "A1", "A\n", "A\n1", "\n1\n", "\nA\n1\n", " A\n1\n", "A \n1\n", "A\n1\n\n", "A\n1\n1\n", "A\n1\n ", "A\n1 \n", "A\n 1\n", "A\n\n1\n", "A\n2\n", "A\n/\n", "A\n11\n", "A\n1\nA\n1\n",
			"A\r\n1\r\n", "A\n1\r\n", "\ufeffA\n1\n", "A\x00\n1\n", "1\n1\n", "Ä\n1\n", long + "a\n1\n", "A\tB\n11\n01\n", "A  B\n11\n01\n", "A B \n11\n01\n", "A A\n11\n01\n", "A B A\n111\n011\n001\n",
			"A B\n11\n", "A B\n11\n01", "A B\n11\n01\n\n", "A B\n11\n01\n01\n", "A B\n1101\n", "A B\n1101\n\n", "A B\n110\n1\n", "A B\n1\n101\n", "A B\n1 1\n01\n", "A B\n11 01\n", "A B\n11\n0\n1", "A B\n11\r01\r", "A B\n1١\n", "A B\n11\n0x\n",
			strings.Repeat(" ", 63), strings.Join(names(63), " ") + " \n", most + "\n", most[1:], most[:len(most)-1], most + strings.Repeat(" ", 64), "A\n" + strings.Repeat(" ", 1000),
			"A A\n00\n00\n", "A 1\n10\n01\n", "A B\n10\n0\n", "A B\n00\n00", "A B\n10\n01",
		},
		api.ErrOrder: {
			"A\n0\n", "A B\n00\n00\n", "A B\n11\n00\n", "A B\n01\n01\n", "A B\n11\n11\n", "A B\n01\n10\n", "A B C\n110\n011\n001\n", "A B C\n111\n111\n001\n", "A B C D\n1111\n0110\n0011\n0001\n",
			"A B C\n100\n010\n000\n", "A B C\n100\n011\n011\n",
		},
		api.ErrLat: {
			"A B\n10\n01\n", "A B C\n100\n010\n001\n", "A B C\n111\n010\n001\n", "A B C\n101\n011\n001\n", "A B C D\n1011\n0111\n0010\n0001\n", lat6, reversed6,
		},
	} {
		for _, text := range texts {
			l, e := lat.Parse(text)
			if e != want {
				t.Errorf("%q: %d, not %d", text, e, want)
			}
			if e == api.OK && (!lat.Right(l) || lat.Print(l) != text) || e != api.OK && (l.Names != nil || l.Up != nil) {
				t.Errorf("%q: %v", text, l)
			}
		}
	}
}

// Two points of lat6 have two least ones above both; of reversed6 likewise below both.
const (
	lat6      = "A B C D E F\n111111\n010111\n001111\n000101\n000011\n000001\n"
	reversed6 = "F E D C B A\n100000\n110000\n101000\n111100\n111010\n111111\n"
)

// P1.4: whatever one byte of a text is turned into, dropped or doubled, what is parsed is what is printed.
func TestParseTurned(t *testing.T) {
	const bytes = "01 \n\rAaZz9_\x00\xff"
	for name, l := range samples() {
		text := lat.Print(l)
		step := 1 + len(text)/200
		for i := 0; i < len(text); i += step {
			parsedIsPrinted(t, name, text[:i]+text[i+1:])
			parsedIsPrinted(t, name, text[:i]+text[i:i+1]+text[i:])
			for j := range len(bytes) {
				parsedIsPrinted(t, name, text[:i]+bytes[j:j+1]+text[i+1:])
			}
		}
	}
}

func parsedIsPrinted(t *testing.T, name, text string) {
	t.Helper()
	l, e := lat.Parse(text)
	if e == api.OK && (!lat.Right(l) || lat.Print(l) != text) || e != api.OK && (l.Names != nil || l.Up != nil) {
		t.Errorf("%s: %q: %v, %d", name, text, l, e)
	}
}

// P1: a long text is read to its end.
func TestParseLong(t *testing.T) {
	for text, want := range map[string]api.Errno{
		strings.Repeat("A", 1<<22):              api.ErrParse,
		strings.Repeat("A ", 1<<21):             api.ErrLimit,
		"A\n" + strings.Repeat("1\n", 1<<21):    api.ErrParse,
		"A B\n" + strings.Repeat(" ", 1<<22):    api.ErrParse,
		strings.Repeat("\n", 1<<22):             api.ErrParse,
		"A" + strings.Repeat(" ", 64) + "\n1\n": api.ErrLimit,
	} {
		if _, e := lat.Parse(text); e != want {
			t.Errorf("%q..: %d", text[:4], e)
		}
	}
}
