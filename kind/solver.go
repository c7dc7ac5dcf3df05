package kind

import (
	"iter"

	"hearth/api"
)

// ownHoles is the number of the first hole that a solver adds to those of given types, which have lesser numbers.
const ownHoles = 100

// failure is what a search gives up with.
type failure struct {
	errno api.Errno
}

func fail(e api.Errno) { panic(failure{e}) }

// attempt returns what a search finds, or the error that it gives up with.
func attempt[T any](search func() T) (found T, e api.Errno) {
	defer func() {
		if f, gaveUp := recover().(failure); gaveUp {
			e = f.errno
		}
	}()
	return search(), api.OK
}

// solver finds types for holes, by the constructors and functions of a module.
type solver struct {
	api.TermModule
	types map[int]api.TermType // of holes, by their numbers; holes in them can have types, too
	first int                  // the first hole that can get a type: those before it stay as they are
	next  int                  // the hole that is added next
	sames []api.TermType       // what each TermSame compares
}

func newSolver(m api.TermModule, first int) *solver {
	return &solver{TermModule: m, types: map[int]api.TermType{}, first: first, next: ownHoles}
}

func made(sort api.TermSort, parts ...api.TermType) api.TermType {
	return api.TermType{Sort: sort, Parts: parts}
}

func holeOf(n int) api.TermType { return api.TermType{Sort: api.TypeHole, N: n} }

// arrow returns the type of a function: the last type is what it returns when it has got all the others, one by one.
func arrow(types ...api.TermType) api.TermType {
	last := len(types) - 1
	out := types[last]
	for i := range last {
		out = made(api.TypeFun, types[last-1-i], out)
	}
	return out
}

// owned returns a type whose holes are a solver's own ones.
func owned(t api.TermType) api.TermType {
	if t.Sort == api.TypeHole {
		return holeOf(ownHoles + t.N)
	}
	out := api.TermType{Sort: t.Sort, Text: t.Text}
	for _, part := range t.Parts {
		out.Parts = append(out.Parts, owned(part))
	}
	return out
}

// hole adds a hole.
func (s *solver) hole() api.TermType {
	t := holeOf(s.next)
	s.next++
	return t
}

// typeOf returns the type of a hole, if it has one.
func (s *solver) typeOf(t api.TermType) (api.TermType, bool) {
	if t.Sort != api.TypeHole {
		return api.TermType{}, false
	}
	known, has := s.types[t.N]
	return known, has
}

// free reports whether a type is a hole that can get a type.
func (s *solver) free(t api.TermType) bool {
	_, has := s.typeOf(t)
	return t.Sort == api.TypeHole && t.N >= s.first && !has
}

// head returns a type that is no hole, or a hole without a type: the one that a type stands for.
func (s *solver) head(t api.TermType) api.TermType {
	for {
		known, has := s.typeOf(t)
		if !has {
			return t
		}
		t = known
	}
}

// parts goes through a type and the types of its holes, each part before those within it. It goes into the type of a hole once:
// where holes stand twice in the types of holes, and so on, there are too many parts to go through all.
func (s *solver) parts(t api.TermType) iter.Seq[api.TermType] {
	return func(yield func(api.TermType) bool) {
		met := map[int]bool{}
		var walk func(api.TermType) bool
		walk = func(part api.TermType) bool {
			inner := part.Parts
			if known, has := s.typeOf(part); has && !met[part.N] {
				met[part.N] = true
				inner = []api.TermType{known}
			}
			return yield(part) && all(inner, walk)
		}
		walk(t)
	}
}

// unify makes two types equal.
func (s *solver) unify(a, b api.TermType) {
	typeOfA, hasA := s.typeOf(a)
	typeOfB, hasB := s.typeOf(b)
	switch {
	case a.Sort == api.TypeHole && b.Sort == api.TypeHole && a.N == b.N:
	case hasA:
		s.unify(typeOfA, b)
	case hasB:
		s.unify(a, typeOfB)
	case s.free(a) && s.free(b):
		s.bind(max(a.N, b.N), holeOf(min(a.N, b.N)))
	case s.free(a):
		s.bind(a.N, b)
	case s.free(b):
		s.bind(b.N, a)
	case a.Sort != b.Sort || a.N != b.N || a.Text != b.Text:
		fail(api.ErrRule)
	default:
		for i := range len(a.Parts) {
			s.unify(a.Parts[i], b.Parts[i])
		}
	}
}

// bind gives a hole a type, in which it must not stand.
func (s *solver) bind(hole int, t api.TermType) {
	for part := range s.parts(t) {
		if part.Sort == api.TypeHole && part.N == hole {
			fail(api.ErrRule)
		}
	}
	s.types[hole] = t
}

// number gives the free holes in a type the numbers from 0 on that are not those of holes in the types of names.
func (s *solver) number(t api.TermType, names []api.KindName) {
	given := map[int]bool{}
	for _, n := range names {
		for part := range s.parts(n.Type) {
			if part.Sort == api.TypeHole {
				given[part.N] = true
			}
		}
	}
	next := 0
	for part := range s.parts(t) {
		if !s.free(part) {
			continue
		}
		for given[next] {
			next++
		}
		if next >= ownHoles {
			fail(api.ErrLong)
		}
		s.types[part.N] = holeOf(next)
		next++
	}
}

// written returns a type with types in place of its holes, in memory of its own; it gives up when there are too many parts.
func (s *solver) written(t api.TermType) api.TermType {
	left := api.TermTypes
	var write func(api.TermType) api.TermType
	write = func(part api.TermType) api.TermType {
		if left == 0 {
			fail(api.ErrLong)
		}
		left--
		part = s.head(part)
		out := api.TermType{Sort: part.Sort, N: part.N, Text: part.Text}
		for _, inner := range part.Parts {
			out.Parts = append(out.Parts, write(inner))
		}
		return out
	}
	return write(t)
}

// solution returns the types of the holes from 0 up to the last one that has a type.
func (s *solver) solution() []api.TermType {
	var out []api.TermType
	for n := range ownHoles {
		if _, has := s.types[n]; !has {
			continue
		}
		for len(out) <= n {
			out = append(out, s.written(holeOf(len(out))))
		}
	}
	return out
}
