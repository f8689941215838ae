package wild

import (
	"slices"
	"strings"
	"testing"

	"wainwright/glob"
	"wainwright/vfs"
)

// slowParts is a word's parts, byte by byte.
func slowParts(w string) []string {
	var parts []string
	part := ""
	for i := range len(w) {
		if w[i] != '/' {
			part += w[i : i+1]
			continue
		}
		if part != "" {
			parts = append(parts, part)
		}
		part = ""
	}
	if part != "" {
		parts = append(parts, part)
	}
	return parts
}

// slowPlain is the Plain of each.
func slowPlain(parts []string) []string {
	var plain []string
	for _, part := range parts {
		plain = append(plain, glob.Plain(part))
	}
	return plain
}

// slow is P7.1 read word by word: a way for each part, and none of them ahead of its time.
func slow(f *vfs.FS, w string) []string {
	parts := slowParts(w)
	if len(parts) == 0 {
		if strings.HasPrefix(w, "/") {
			return []string{"/"}
		}
		return nil
	}
	if !slices.ContainsFunc(parts, glob.Magic) {
		if _, ok := f.Look("/" + strings.Join(slowPlain(parts), "/")); ok {
			return []string{w}
		}
		return nil
	}
	var found []string
	for _, names := range slowWays(f, nil, parts) {
		name := strings.Join(names, "/")
		e, _ := f.Look("/" + name)
		if strings.HasPrefix(w, "/") {
			name = "/" + name
		}
		if !strings.HasSuffix(w, "/") {
			found = append(found, name)
		} else if e.Dir {
			found = append(found, name+"/")
		}
	}
	slices.Sort(found)
	return slices.Compact(found)
}

// slowWays is the ways, as their parts' names, that go on from one by the parts.
func slowWays(f *vfs.FS, way, parts []string) [][]string {
	at := "/" + strings.Join(way, "/")
	e, ok := f.Look(at)
	if !ok {
		return nil
	}
	if len(parts) == 0 {
		return [][]string{way}
	}
	if !e.Dir {
		return nil
	}
	names := []string{glob.Plain(parts[0])}
	if glob.Magic(parts[0]) {
		names = nil
		for _, name := range f.List(at) {
			if glob.Match(parts[0], name) {
				names = append(names, name)
			}
		}
	}
	var ways [][]string
	for _, name := range names {
		ways = append(ways, slowWays(f, append(slices.Clone(way), name), parts[1:])...)
	}
	return ways
}

// allTexts calls see with every text of at most most of the pieces.
func allTexts(pieces []string, most int, see func(string)) {
	var grow func(s string, left int)
	grow = func(s string, left int) {
		see(s)
		if left == 0 {
			return
		}
		for _, piece := range pieces {
			grow(s+piece, left-1)
		}
	}
	grow("", most)
}

// P7.1 and P7.2, over all short words, and over words of more parts.
func TestAllWords(t *testing.T) {
	f := of("a/a", "a/b/a", "a/.b", "b", ".a/b", ".c", "*", `\`, `*\`, "[", "[a]", "ab/b", "]/", `d\/a`)
	for _, c := range []struct {
		pieces []string
		most   int
	}{
		{list("a", "b", "*", "/", ".", "..", `\`, "[", "]", "?"), 5},
		{list("a", "/*", "/a", "/b", "/.", "/..", "/", "/?b", "/[ab]"), 5},
	} {
		allTexts(c.pieces, c.most, func(w string) {
			if got, want := Expand(f, w), slow(f, w); !slices.Equal(got, want) {
				t.Fatalf("Expand(%q) = %q, want %q", w, got, want)
			}
			checkThere(t, f, w)
		})
	}
}
