package wild

import (
	"slices"
	"strings"

	"wainwright/glob"
	"wainwright/vfs"
)

// step is what a walk takes at one go: a Magic part, or a name that may have / in it.
type step struct {
	text  string
	magic bool
}

// stepsOf is the steps of a walk by a word whose parts are these. A / at an end
// of the word is a step by the empty name: it leads from a directory to itself
// and from a file nowhere, and the names with / between have the / at that end.
func stepsOf(w string, parts []part) []step {
	var steps []step
	if strings.HasPrefix(w, "/") {
		steps = append(steps, step{})
	}
	for len(parts) > 0 {
		end := goEnd(parts)
		steps = append(steps, step{text: join(parts[:end]), magic: parts[0].magic})
		parts = parts[end:]
	}
	if strings.HasSuffix(w, "/") {
		steps = append(steps, step{})
	}
	return steps
}

// goEnd is where the parts end that a walk takes at one go. Names in a row are:
// a Look costs the length of its whole path, and where it finds the last of
// them, directories alone are ahead of that. So are . and .. in a row, but not
// behind names: Look goes back even from a file, or from what is not there.
func goEnd(parts []part) int {
	end := 1
	for end < len(parts) && alike(parts[end-1], parts[end]) {
		end++
	}
	return end
}

// alike tells whether two parts may be taken at one go.
func alike(a, b part) bool {
	return !a.magic && !b.magic && dots(a) == dots(b)
}

// dots tells whether a part is . or ..
func dots(p part) bool {
	return p.text == "." || p.text == ".."
}

// place is where a walk has come to: whether that is a directory, and by which
// ways; none is where it began.
type place struct {
	dir  bool
	ways []way
}

// way is the last step to a place: from where, and by which name.
type way struct {
	from *place
	name string
}

// search is what the steps lead to. No name comes twice, as its parts tell the
// one way that has led to it.
func search(f *vfs.FS, steps []step) []string {
	walk := walker(f)
	var ends map[string]*place
	for _, s := range steps {
		ends = walk(s)
	}
	var names []string
	for _, end := range ends {
		names = append(names, namesOf(end)...)
	}
	// By whole names, not directory by directory: a.b/x stands between a and a/x.
	slices.Sort(names)
	return names
}

// walker is a walk that stands at /. Called with a step, it goes on from all
// the places where it stands, and answers those where it stands then, by their
// paths. Where ways meet they go on as one: by .. there may be so many of them
// that a walk along each would not end in time, even if it found nothing.
func walker(f *vfs.FS) func(step) map[string]*place {
	at := map[string]*place{"/": {dir: true}}
	return func(s step) map[string]*place {
		next := map[string]*place{}
		for path, from := range at {
			if !from.dir {
				continue
			}
			for _, name := range s.names(f, path) {
				reach(f, next, path, way{from, name})
			}
		}
		at = next
		return at
	}
}

// names is the names that a step asks for in a directory.
func (s step) names(f *vfs.FS, dir string) []string {
	if !s.magic {
		return []string{s.text}
	}
	return slices.DeleteFunc(f.List(dir), func(name string) bool { return !glob.Match(s.text, name) })
}

// reach lays the way from a directory down with the place that it leads to, if it leads to one.
func reach(f *vfs.FS, places map[string]*place, dir string, w way) {
	e, there := f.Look(dir + "/" + w.name)
	if !there {
		return
	}
	if places[e.Path] == nil {
		places[e.Path] = &place{dir: e.Dir}
	}
	to := places[e.Path]
	to.ways = append(to.ways, w)
}

// trail is the names of a way from a place on.
type trail struct {
	name string
	rest *trail
}

// lead is a way of which what is behind a place is known.
type lead struct {
	at     *place
	behind *trail
}

// namesOf is the names of all ways to a place. They are gone back, as each of
// them comes to where the walk began: nothing is tried in vain. What is still
// to be gone lies in a list, as a way may be longer than calls can be nested.
func namesOf(end *place) []string {
	var names []string
	leads := []lead{{at: end}}
	for len(leads) > 0 {
		l := leads[len(leads)-1]
		leads = leads[:len(leads)-1]
		if len(l.at.ways) == 0 {
			names = append(names, l.behind.text())
		}
		for _, w := range l.at.ways {
			leads = append(leads, lead{w.from, &trail{w.name, l.behind}})
		}
	}
	return names
}

// text is a trail's names with / between.
func (t *trail) text() string {
	var names []string
	for ; t != nil; t = t.rest {
		names = append(names, t.name)
	}
	return strings.Join(names, "/")
}
