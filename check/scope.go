package check

import (
	"lamplighter/api"
)

// scope is the names of a block, and the block around it.
type scope struct {
	locals map[string]struct{}
	around *scope
}

// within opens a block in another one; nil is around the first one.
func within(around *scope) *scope {
	return &scope{locals: map[string]struct{}{}, around: around}
}

// has reports whether a local is in scope.
func (s *scope) has(name string) bool {
	for ; s != nil; s = s.around {
		if _, is := s.locals[name]; is {
			return true
		}
	}
	return false
}

// add adds a local, which must not be in scope yet.
func (s *scope) add(name string) error {
	if s.has(name) {
		return violation(api.ErrThere)
	}
	s.locals[name] = struct{}{}
	return nil
}
