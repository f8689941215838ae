package wild

import (
	"slices"
	"strconv"
	"strings"
	"testing"

	"wainwright/api"
	"wainwright/vfs"
)

// checkOne holds what a long word finds against the one name that it must.
func checkOne(t *testing.T, name string, f *vfs.FS, w, want string) {
	t.Helper()
	if got := Expand(f, w); len(got) != 1 || got[0] != want {
		t.Errorf("%s: finds %d names, or another one", name, len(got))
	}
}

// R1: long words come to their end.
func TestLongWords(t *testing.T) {
	const long = 1 << 15
	names := strings.Repeat("d/", long)
	f := vfs.New([]api.Entry{{Path: names + "x.c"}, {Path: names + "y"}})
	checkOne(t, "deep down, without Magic", f, names+"x.c", names+"x.c")
	checkOne(t, "deep down", f, names+"*.c", names+"x.c")
	checkOne(t, "deep down and back", f, names+strings.Repeat("../", long)+"*", names+strings.Repeat("../", long)+"d")
	deep := strings.Repeat("/d", 1000)
	checkOne(t, "Magic parts all the way", f, strings.Repeat("/[d]", 1000), deep)
	checkOne(t, "Magic and others in turn", f, strings.Repeat("/d/?", 500), deep)
	if got := Expand(f, names+"x.c/*"); len(got) != 0 {
		t.Errorf("behind a file deep down: %d names", len(got))
	}
	f = of("d/", "a")
	for _, part := range []string{"./", "../", "d/../", "d/.././"} {
		checkOne(t, part, f, strings.Repeat(part, long)+"?/", strings.Repeat(part, long)+"d/")
		checkOne(t, part+" without Magic", f, strings.Repeat(part, long), strings.Repeat(part, long))
	}
	checkOne(t, "Magic and back", f, strings.Repeat("*/../", long)+"a", strings.Repeat("d/../", long)+"a")
	checkOne(t, "a long part", f, strings.Repeat("*", long)+"a", "a")
}

// R1: more ways than could be gone, none of which finds anything.
func TestManyWays(t *testing.T) {
	var l []api.Entry
	for i := range 100 {
		l = append(l, api.Entry{Path: "d" + strconv.Itoa(i), Dir: true})
	}
	f := vfs.New(append(l, api.Entry{Path: "file"}))
	ways := strings.Repeat("*/../", 50)
	for _, end := range []string{"none", "none*", "f*/", "file/.", "file/*", "*/none", "*/*"} {
		if got := Expand(f, ways+end); len(got) != 0 {
			t.Errorf("behind many ways %q finds %d names", end, len(got))
		}
	}
	if got := Expand(f, "*/../*/../f*"); len(got) != 100*100 || !slices.IsSorted(got) || len(slices.Compact(got)) != 100*100 {
		t.Errorf("by many ways %d names are found", len(got))
	}
}

// R3: what is handed in stays as it is.
func TestHandedIn(t *testing.T) {
	f := house()
	was := f.All()
	words := list("*.c", "", "d/../*.h", `st\*r`, "none", "*/")
	wasWords := slices.Clone(words)
	All(f, words)
	if !slices.Equal(words, wasWords) {
		t.Errorf("the words have become %q", words)
	}
	if got := f.All(); !slices.Equal(got, was) {
		t.Errorf("the file system has become %+v", got)
	}
}

// R3 and R4: an answer is new memory, and the same each time.
func TestAnswers(t *testing.T) {
	f := house()
	for _, w := range []string{"/", "a.c", "*", "d/../*.h", "*/x.c", "*/"} {
		one := Expand(f, w)
		was := slices.Clone(one)
		spoilt := Expand(f, w)
		for i := range spoilt {
			spoilt[i] = "spoilt"
		}
		_ = append(spoilt, "more")
		if again := Expand(f, w); !slices.Equal(one, was) || !slices.Equal(again, was) {
			t.Errorf("%q: %q, then %q", w, was, again)
		}
	}
	words := list("*.c", "*.c", "/")
	one := All(f, words)
	was := slices.Clone(one)
	clear(All(f, words))
	if again := All(f, words); !slices.Equal(one, was) || !slices.Equal(again, was) {
		t.Errorf("All: %q, then %q", was, again)
	}
}
