package execute

// scope contains the variables of the program itself or of a call of a procedure.
type scope[V any] struct {
	variables map[string]value[V]
	names     []string // of the variables, in the order of their declarations
	// before contains what the variables were that have been assigned to since the innermost if with a secret condition
	// started its block; it is nil outside of these blocks.
	before map[string][]V
}

func newScope[V any]() scope[V] {
	return scope[V]{variables: map[string]value[V]{}}
}

func (s *scope[V]) declare(name string, v value[V]) {
	s.variables[name] = v
	s.names = append(s.names, name)
}

// forget removes all variables but the first ones.
func (s *scope[V]) forget(first int) {
	for _, name := range s.names[first:] {
		delete(s.variables, name)
	}
	s.names = s.names[:first]
}

// assign gives a variable other elements. Its type is still the declared one.
func (s *scope[V]) assign(name string, items []V) {
	v := s.variables[name]
	if _, assigned := s.before[name]; !assigned && s.before != nil {
		s.before[name] = v.items
	}
	s.variables[name] = value[V]{v.kind, items}
}

// undo takes back the assignments to the variables that still exist, and returns what they were.
func (s *scope[V]) undo(before map[string][]V) map[string][]V {
	after := map[string][]V{}
	for name, items := range before {
		if v, exists := s.variables[name]; exists {
			after[name] = v.items
			s.variables[name] = value[V]{v.kind, items}
		}
	}
	return after
}

// after returns the elements that a variable has with the assignments that have been undone.
func (s *scope[V]) after(undone map[string][]V, name string) []V {
	if items, found := undone[name]; found {
		return items
	}
	return s.variables[name].items
}
