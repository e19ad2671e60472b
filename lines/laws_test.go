package lines_test

import (
	"slices"
	"testing"

	"lamplighter/api"
	"lamplighter/lines"
)

// ready reports whether a vector is pending, enabled, and above both.
func ready(pending, enabled uint32, level, active int, v api.Vec) bool {
	return lines.Has(pending, v.Line) && lines.Has(enabled, v.Line) && v.Prio > level && v.Prio > active
}

// cases goes over lists with sets, levels and active priorities.
func cases(f func(pending, enabled uint32, level, active int, l []api.Vec)) {
	r := numbers(4)
	for _, l := range mixed() {
		for level := range 16 {
			for active := range 16 {
				f(r.word()<<1|1, r.word()|1<<31, level, active, l)
				f(r.word(), r.word()&r.word(), level, active, l)
			}
		}
	}
	for _, l := range few() {
		for _, pending := range fewSets() {
			for _, level := range []int{0, 1, 2, 14, 15} {
				f(pending, 1|1<<31, level, 0, l)
				f(pending, 1<<9|1<<31, 0, level, l)
			}
		}
	}
}

// TestP23Taken: what is taken is ready; nothing that was ready has a greater
// priority, or the same and a smaller line; where none is taken, none is ready.
func TestP23Taken(t *testing.T) {
	cases(func(pending, enabled uint32, level, active int, l []api.Vec) {
		at, ok := lines.Take(pending, enabled, level, active, l)
		if ok && !ready(pending, enabled, level, active, l[at]) {
			t.Fatalf("Take(%#x, %#x, %d, %d, %v) = %d, which is not ready", pending, enabled, level, active, l, at)
		}
		for i, v := range l {
			if !ready(pending, enabled, level, active, v) {
				continue
			}
			if !ok || v.Prio > l[at].Prio || v.Prio == l[at].Prio && v.Line < l[at].Line {
				t.Fatalf("Take(%#x, %#x, %d, %d, %v) = %d, %v; %d comes ahead", pending, enabled, level, active, l, at, ok, i)
			}
		}
	})
}

// TestP23More: with more lines pending or enabled, one with at least that Prio
// is taken.
func TestP23More(t *testing.T) {
	r := numbers(5)
	cases(func(pending, enabled uint32, level, active int, l []api.Vec) {
		at, ok := lines.Take(pending, enabled, level, active, l)
		if !ok {
			return
		}
		some := r.word() & r.word() << 1
		for _, x := range [][2]uint32{{some, 0}, {0, some}, {some, some}, {^uint32(0), 0}, {0, ^uint32(0)}, {^uint32(0), ^uint32(0)}} {
			more, is := lines.Take(pending|x[0], enabled|x[1], level, active, l)
			if !is || l[more].Prio < l[at].Prio {
				t.Fatalf("Take(%#x, %#x, %d, %d, %v) = %d; with %#x more %d, %v", pending, enabled, level, active, l, at, x, more, is)
			}
		}
	})
}

// TestP23Higher: with a higher level or active priority, none is taken that
// was not above before; and what is still above is still taken.
func TestP23Higher(t *testing.T) {
	cases(func(pending, enabled uint32, level, active int, l []api.Vec) {
		at, ok := lines.Take(pending, enabled, level, active, l)
		for up := range 16 {
			for _, x := range [][2]int{{level + up, active}, {level, active + up}, {level + up, active + up}} {
				higher, is := lines.Take(pending, enabled, x[0], x[1], l)
				if is && (l[higher].Prio <= level || l[higher].Prio <= active) {
					t.Fatalf("Take(%#x, %#x, %d, %d, %v) = %d, which was not above", pending, enabled, x[0], x[1], l, higher)
				}
				if still := ok && l[at].Prio > max(x[0], x[1]); is != still || is && higher != at {
					t.Fatalf("Take(%#x, %#x, %d, %d, %v) = %d, %v; from %d, %v", pending, enabled, x[0], x[1], l, higher, is, at, ok)
				}
			}
		}
	})
}

// TestP23Order: which vector is taken does not depend on where it stands.
func TestP23Order(t *testing.T) {
	cases(func(pending, enabled uint32, level, active int, l []api.Vec) {
		at, ok := lines.Take(pending, enabled, level, active, l)
		turned := slices.Clone(l)
		slices.Reverse(turned)
		other, is := lines.Take(pending, enabled, level, active, turned)
		if is != ok || ok && turned[other] != l[at] {
			t.Fatalf("Take(%#x, %#x, %d, %d, %v) = %d, %v; turned round %d, %v", pending, enabled, level, active, l, at, ok, other, is)
		}
	})
}
