package bell

import (
	"slices"
	"testing"

	"escapement/api"
)

// P3.1: several bells are armed as they would be one behind the other.
func TestArmSeveral(t *testing.T) {
	b := New()
	if e := b.arm(); e != api.OK || b.Count() != 0 {
		t.Errorf("none armed: error %d, Count() %d", e, b.Count())
	}
	e := b.arm(api.Bell{At: 9, Kind: 1, Id: 2}, api.Bell{At: 4, Kind: 3, Id: 0}, api.Bell{At: 5, Kind: 1, Id: 2})
	if e != api.OK {
		t.Errorf("three armed: error %d", e)
	}
	want := []api.Bell{{At: 4, Kind: 3, Id: 0}, {At: 5, Kind: 1, Id: 2}}
	if got := b.Due(9); !slices.Equal(got, want) {
		t.Errorf("Due(9): %v, want %v", got, want)
	}
}

// P3.1, P3.3: the first one that may not be tells the error, and then none is armed.
func TestArmSeveralErrors(t *testing.T) {
	may, noKind, noId, noTick := api.Bell{At: 9, Kind: 1}, api.Bell{Kind: 4, At: -1}, api.Bell{Id: 16}, api.Bell{At: api.MaxTick + 1}
	for _, row := range []struct {
		l []api.Bell
		e api.Errno
	}{
		{[]api.Bell{may, noKind}, api.ErrRange},
		{[]api.Bell{may, noId, noTick}, api.ErrRange},
		{[]api.Bell{may, noTick, noKind}, api.ErrArg},
		{[]api.Bell{noTick, may}, api.ErrArg},
	} {
		b := New()
		b.Arm(1, 0, 3)
		if e := b.arm(row.l...); e != row.e {
			t.Errorf("arm(%v): error %d, want %d", row.l, e, row.e)
		}
		if at, is := b.At(1, 0); at != 3 || !is || b.Count() != 1 {
			t.Errorf("arm(%v): At(1, 0) %d, %v, Count() %d", row.l, at, is, b.Count())
		}
	}
}

// P3.2: Count is the length of the rank that is embedded.
func TestCountIsLen(t *testing.T) {
	b := New()
	for id := range api.MaxBells {
		if b.Count() != b.Len() || b.Len() != id {
			t.Errorf("Count() %d, Len() %d, want %d", b.Count(), b.Len(), id)
		}
		b.Arm(0, id, 1)
	}
}
