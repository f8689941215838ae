package lines

import (
	"slices"
	"strings"
	"testing"

	"wainwright/api"
)

// slowRaws is a text's lines, byte by byte.
func slowRaws(text string) []string {
	var l []string
	raw := ""
	for i := range len(text) {
		if text[i] != 10 {
			raw += text[i : i+1]
			continue
		}
		l = append(l, raw)
		raw = ""
	}
	if raw != "" {
		l = append(l, raw)
	}
	return l
}

// slowOdd is whether s ends with an odd number of backslashes.
func slowOdd(s string) bool {
	odd := false
	for s != "" && s[len(s)-1] == '\\' {
		odd, s = !odd, s[:len(s)-1]
	}
	return odd
}

// slowBare is Bare: each run of backslashes is read, then what stands behind it.
func slowBare(s string) string {
	bare, run := "", ""
	for i := range len(s) {
		switch {
		case s[i] == '\\':
			run += `\`
			continue
		case s[i] == '#' && !slowOdd(run):
			return bare + run[:len(run)/2]
		case s[i] == '#':
			run = run[:len(run)/2]
		}
		bare, run = bare+run+s[i:i+1], ""
	}
	return bare + run
}

// slow is P8.2 read word by word: a line is put behind the whole text that there is by then.
func slow(text string) []api.Line {
	raws := slowRaws(text)
	var l []api.Line
	for at := 0; at < len(raws); {
		line := api.Line{Text: raws[at], N: at + 1}
		if strings.HasPrefix(line.Text, "\t") {
			line.Recipe, line.Text = true, line.Text[1:]
		}
		at++
		for slowOdd(line.Text) && at < len(raws) {
			if line.Recipe {
				line.Text += "\n" + strings.TrimPrefix(raws[at], "\t")
			} else {
				line.Text = strings.TrimRight(line.Text[:len(line.Text)-1], " \t\n") + " " + strings.TrimLeft(raws[at], " \t\n")
			}
			at++
		}
		if !line.Recipe {
			line.Text = slowBare(line.Text)
		}
		l = append(l, line)
	}
	return l
}

// allTexts calls see with every text of at most most of the pieces.
func allTexts(pieces []string, most int, see func(string)) {
	var grow func(s string, left int)
	grow = func(s string, left int) {
		see(s)
		if left == 0 {
			return
		}
		for _, piece := range pieces {
			grow(s+piece, left-1)
		}
	}
	grow("", most)
}

// P8.1 to P8.4, over all short texts, and over texts of more lines.
func TestAllTexts(t *testing.T) {
	for _, c := range []struct {
		pieces []string
		most   int
	}{
		{[]string{"a", `\`, "#", "\n", " ", "\t"}, 6},
		{[]string{"a\\\n", "\\\n", " \\\n", "\t\\\n", "\tb\\\\\\\n", "\n", "c # \\\n", ` \#d`, "\\\\\n"}, 5},
	} {
		allTexts(c.pieces, c.most, func(text string) {
			l := All(text)
			if want := slow(text); !slices.Equal(l, want) {
				t.Fatalf("All(%q) = %+v, want %+v", text, l, want)
			}
			if got, want := Bare(text), slowBare(text); got != want {
				t.Fatalf("Bare(%q) = %q, want %q", text, got, want)
			}
			checkRaws(t, text)
			checkNexts(t, text, l)
		})
	}
}

// checkRaws holds what Raw answers, line by line, against a text's lines.
func checkRaws(t *testing.T, text string) {
	t.Helper()
	at := 0
	for _, want := range slowRaws(text) {
		s, next := Raw(text, at)
		if end := min(at+len(want)+1, len(text)); s != want || next != end {
			t.Fatalf("Raw(%q, %d) = %q, %d, want %q, %d", text, at, s, next, want, end)
		}
		at = next
	}
	if at != len(text) {
		t.Fatalf("%q: the lines end at %d", text, at)
	}
}

// checkNexts holds what Next answers, line by line, against what All does: from
// another number on the numbers alone are others.
func checkNexts(t *testing.T, text string, l []api.Line) {
	t.Helper()
	const more = -3
	at, n := 0, 1+more
	for _, want := range l {
		want.N += more
		line, next, number, ok := Next(text, at, n)
		if !ok || line != want || next <= at {
			t.Fatalf("Next(%q, %d, %d) = %+v, %d, %d, %v, want %+v", text, at, n, line, next, number, ok, want)
		}
		if read := text[at:next]; number != n+len(slowRaws(read)) {
			t.Fatalf("Next(%q, %d, %d): behind %q the number is %d", text, at, n, read, number)
		}
		at, n = next, number
	}
	if _, _, _, ok := Next(text, at, n); ok || at != len(text) {
		t.Fatalf("%q: the logical lines end at %d", text, at)
	}
}

// checkOne holds a long text, which is one line, against that.
func checkOne(t *testing.T, name, text string, want api.Line) {
	t.Helper()
	if l := All(text); len(l) != 1 || l[0] != want {
		t.Errorf("%s: %d lines, or another one", name, len(l))
	}
}

// R1: long texts come to their end.
func TestLongTexts(t *testing.T) {
	const long = 1 << 18
	checkOne(t, "a long line", strings.Repeat("a", long), line(1, strings.Repeat("a", long)))
	checkOne(t, "a line that goes on and on", strings.Repeat("a\\\n", long)+"a", line(1, strings.Repeat("a ", long)+"a"))
	checkOne(t, "with nothing in it", strings.Repeat("\\\n", long)+"a", line(1, " a"))
	checkOne(t, "a recipe's that goes on and on", "\t"+strings.Repeat("a\\\n\t", long), recipe(1, strings.Repeat("a\\\n", long)))
	checkOne(t, "backslashes", strings.Repeat(`\`, long), line(1, strings.Repeat(`\`, long)))
	checkOne(t, "shielded ones", strings.Repeat(`\#`, long), line(1, strings.Repeat("#", long)))
	checkOne(t, "blanks", strings.Repeat(" ", long)+"\\\n"+strings.Repeat("\t", long), line(1, " "))
	if l := All(strings.Repeat("\n", long)); len(l) != long || l[long-1] != line(long, "") {
		t.Errorf("%d empty lines", len(l))
	}
}

// R3 and R4: an answer is new memory, and the same each time.
func TestAnswersStayApart(t *testing.T) {
	const text = "a\\\nb\n\tc\nd # e"
	one := All(text)
	was := slices.Clone(one)
	spoilt := All(text)
	clear(spoilt)
	_ = append(spoilt[:1], line(9, "more"))
	if again := All(text); !slices.Equal(one, was) || !slices.Equal(again, was) {
		t.Errorf("%+v, then %+v and %+v", was, one, again)
	}
}

// The iterators may be left early, and begin anew each time.
func TestLeftEarly(t *testing.T) {
	walk, walkRaw := each("a\\\nb\nc\nd"), eachRaw("a\\\nb\nc\nd", 3)
	for range 2 {
		var got []api.Line
		for l := range walk {
			if got = append(got, l); len(got) == 2 {
				break
			}
		}
		if !slices.Equal(got, of(line(1, "a b"), line(3, "c"))) {
			t.Errorf("left behind the second line: %+v", got)
		}
		var raws []string
		for raw, next := range walkRaw {
			if raws = append(raws, raw); next == 7 {
				break
			}
		}
		if !slices.Equal(raws, []string{"b", "c"}) {
			t.Errorf("left at place 7: %q", raws)
		}
	}
}
