package table

import (
	"bytes"
	"slices"
	"strings"
	"testing"
)

// chapter is the chapter's table, row by row, as it stands there.
func chapter() map[string]Info {
	all := map[string]Info{}
	for _, row := range []struct {
		names string
		info  Info
	}{
		{"strip sort words firstword lastword dir notdir suffix basename abspath wildcard", Info{1, 1, false, true}},
		{"findstring filter filter-out word addsuffix addprefix join", Info{2, 2, false, true}},
		{"subst patsubst wordlist", Info{3, 3, false, true}},
		{"if", Info{2, 3, true, false}},
		{"or and", Info{1, 0, true, false}},
		{"intcmp", Info{2, 5, true, false}},
		{"foreach let", Info{3, 3, true, false}},
		{"call", Info{1, 0, false, false}},
		{"eval value origin flavor error warning info", Info{1, 1, false, false}},
	} {
		for _, name := range strings.Fields(row.names) {
			all[name] = row.info
		}
	}
	return all
}

// sorted is all names of the chapter's table, by bytes.
const sorted = "abspath addprefix addsuffix and basename call dir error eval filter filter-out findstring firstword flavor foreach if info intcmp join lastword let notdir or origin patsubst sort strip subst suffix value warning wildcard word wordlist words"

// checkFind holds what Find answers of any text against the chapter's table.
func checkFind(t *testing.T, all map[string]Info, name string) {
	t.Helper()
	want, there := all[name]
	if got, ok := Find(name); got != want || ok != there {
		t.Errorf("Find(%q) = %+v, %v, want %+v, %v", name, got, ok, want, there)
	}
}

// P9.1
func TestFind(t *testing.T) {
	all := chapter()
	if len(all) != 35 {
		t.Fatalf("the table has %d names", len(all))
	}
	for name, want := range all {
		if got, ok := Find(name); !ok || got != want {
			t.Errorf("Find(%q) = %+v, %v, want %+v, true", name, got, ok, want)
		}
	}
}

// P9.1: the document's example.
func TestFindIf(t *testing.T) {
	if info, ok := Find("if"); !ok || info.Min != 2 || info.Max != 3 || !info.Lazy || info.Pure {
		t.Errorf("Find(if) = %+v, %v", info, ok)
	}
}

// P9.1: names that are none.
func TestFindNone(t *testing.T) {
	for _, name := range []string{
		"", " ", "-", ",", "$", "(", "if ", " if", "\tif", "if\n", "if,", "$(if", "if)", "(if)", "${if}",
		"If", "IF", "iF", "Strip", "FILTER-OUT", "filter-Out",
		"wor", "ord", "w", "filter-", "-out", "out", "filte", "list", "find", "string", "prefix", "path",
		"ifor", "sortsort", "if if", "or and", "strip,sort", "strip sort", "filter-filter", "filter-out-out",
		"filterout", "filter_out", "filter--out", "filter\u2013out", "filter\u00adout", "word-list", "wordslist", "not-dir",
		"shell", "guile", "load", "file", "realpath", "else", "ifeq", "define", "include", "undefine", "export", "vpath",
		"if\x00", "\x00if", "\x00", "i\x00f", "if\r", "\rif", "if\r\n", "\xff", "if\xff", "\xffif", "\u00eff", "\u0131f", "\uff49\uff46", "if\u00a0", "s\u00f6rt", "\ufeffif", "\u017fort", "1", "if1",
	} {
		if got, ok := Find(name); ok || got != (Info{}) {
			t.Errorf("Find(%q) = %+v, %v, want zero, false", name, got, ok)
		}
	}
}

// P9.1: of the names with one byte more, less or other than a name has just those of the table are found.
func TestFindNear(t *testing.T) {
	all := chapter()
	for name := range all {
		for at := range len(name) + 1 {
			for b := range 256 {
				mid := string([]byte{byte(b)})
				checkFind(t, all, name[:at]+mid+name[at:])
				if at < len(name) {
					checkFind(t, all, name[:at]+mid+name[at+1:])
				}
			}
			if at < len(name) {
				checkFind(t, all, name[:at]+name[at+1:])
			}
		}
	}
}

// P9.1: of the parts of names just those of the table are found (word, of words; dir, of notdir).
func TestFindParts(t *testing.T) {
	all := chapter()
	for name := range all {
		for from := range len(name) + 1 {
			for to := from; to <= len(name); to++ {
				checkFind(t, all, name[from:to])
			}
		}
	}
}

// P9.1: no two names together are one, whatever stands between.
func TestFindTogether(t *testing.T) {
	all := chapter()
	for a := range all {
		for b := range all {
			for _, between := range []string{"", " ", "-", ",", "\t", "\n", "\r", "\x00", "\xff"} {
				if got, ok := Find(a + between + b); ok || got != (Info{}) {
					t.Errorf("Find(%q) = %+v, %v, want zero, false", a+between+b, got, ok)
				}
			}
		}
	}
}

// R1 and P9.1: long names come to their end, and are none.
func TestFindLong(t *testing.T) {
	const long = 1 << 20
	for _, name := range []string{strings.Repeat("a", long), strings.Repeat("if", long), "if" + strings.Repeat(" ", long), strings.Repeat("\x00", long), strings.Repeat(" ", long) + "if"} {
		if got, ok := Find(name); ok || got != (Info{}) {
			t.Errorf("Find of %d bytes that begin with %q = %+v, %v, want zero, false", len(name), name[:4], got, ok)
		}
	}
}

// P9.1
func TestNames(t *testing.T) {
	want := strings.Fields(sorted)
	got := Names()
	if !slices.Equal(got, want) {
		t.Errorf("Names() = %q, want %q", got, want)
	}
	if len(got) != len(chapter()) {
		t.Errorf("%d names, the table has %d", len(got), len(chapter()))
	}
	for i := 1; i < len(got); i++ {
		if bytes.Compare([]byte(got[i-1]), []byte(got[i])) >= 0 {
			t.Errorf("%q stands ahead of %q", got[i-1], got[i])
		}
	}
}

// P9.2
func TestAllNamesAreFound(t *testing.T) {
	l := Names()
	if len(l) == 0 {
		t.Fatal("no names")
	}
	for _, name := range l {
		if _, ok := Find(name); !ok {
			t.Errorf("Find(%q): false", name)
		}
	}
}

// R3: what a caller does with an answer changes no later one, and no earlier one.
func TestAnswersStayApart(t *testing.T) {
	want := strings.Fields(sorted)
	kept, spoilt := Names(), Names()
	_ = append(spoilt[:3], "more", "if")
	clear(spoilt)
	_ = append(spoilt, "more")
	if again := Names(); !slices.Equal(kept, want) || !slices.Equal(again, want) {
		t.Errorf("behind a change Names() = %q, and %q was answered ahead of it", again, kept)
	}
	for name := range chapter() {
		checkFind(t, chapter(), name)
	}
}

// R4: each call answers the same, whatever was asked ahead of it.
func TestAnswersStayTheSame(t *testing.T) {
	want := strings.Fields(sorted)
	for range 100 {
		Find("none")
		if got := Names(); !slices.Equal(got, want) {
			t.Fatalf("Names() = %q, want %q", got, want)
		}
	}
}
