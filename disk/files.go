package disk

import (
	"maps"
	"slices"

	"hawser/api"
)

// files are files' bytes by their names. No two have bytes in common.
type files map[string][]byte

// step is one change of one file, or several of them if it lays bytes down.
type step interface {
	count() int // of the steps that it stands for
}

// single is a step that stands for itself alone.
type single struct{}

func (single) count() int { return 1 }

type create struct {
	single
	name string
}

// extend lays bytes down at a file's end, of which each one is a step.
type extend struct {
	name string
	data []byte
}

func (s extend) count() int { return len(s.data) }

type cut struct {
	single
	name string
	size int
}

type rename struct {
	single
	from, to string
}

type remove struct {
	single
	name string
}

// do does the first keep of what a step stands for; keep is 1 at least.
func (f files) do(s step, keep int) {
	switch s := s.(type) {
	case create:
		f[s.name] = nil
	case extend:
		f[s.name] = append(f[s.name], s.data[:min(keep, len(s.data))]...)
	case cut:
		f[s.name] = f[s.name][:s.size]
	case rename:
		b := f[s.from]
		delete(f, s.from) // ahead of the new name, which may be the same
		f[s.to] = b
	case remove:
		delete(f, s.name)
	}
}

// doFirst does the first keep of the steps, or all, if there are not so many.
func (f files) doFirst(steps []step, keep int) {
	for _, s := range steps {
		if keep < 1 {
			return
		}
		f.do(s, keep)
		keep -= s.count()
	}
}

func (f files) have(name string) bool {
	_, there := f[name]
	return there
}

func (f files) copied() files {
	other := make(files, len(f))
	for name, b := range f {
		other[name] = slices.Clone(b)
	}
	return other
}

func (f files) names() []string { return slices.Sorted(maps.Keys(f)) }

// list answers copies of the files, by rising names.
func (f files) list() []api.File {
	l := make([]api.File, 0, len(f))
	for _, name := range f.names() {
		l = append(l, api.File{Name: name, Data: slices.Clone(f[name])})
	}
	return l
}

// taken answers how many bytes of a disk's room the files take.
func (f files) taken() int {
	sum := 0
	for name, b := range f {
		sum += taken(name, b)
	}
	return sum
}

// taken answers how many bytes of a disk's room a file takes.
func taken(name string, b []byte) int { return len(name) + len(b) }

// isName answers whether a file may be called so.
func isName(name string) bool {
	return len(name) >= 1 && len(name) <= api.MaxName && all([]byte(name), isLetter)
}

// isLetter answers whether a name may have this byte.
func isLetter(c byte) bool {
	switch c {
	case '.', '-', '_':
		return true
	}
	return c >= 'a' && c <= 'z' || c >= '0' && c <= '9'
}

func all[T any](l []T, is func(T) bool) bool {
	for _, x := range l {
		if !is(x) {
			return false
		}
	}
	return true
}
