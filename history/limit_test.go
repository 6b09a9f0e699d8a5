package history

import (
	"testing"
	"unsafe"

	"jalousie/api"
)

// commits is a history that seems to have so many commits: as many labels would be 16 GiB, so that their list says a length that it does not have.
func commits(n int) *History {
	h := &History{labels: make([]api.Label, 1), next: 1}
	// In memory a list is where it lies, its length, and its room.
	list := (*[3]uintptr)(unsafe.Pointer(&h.labels))
	list[1], list[2] = uintptr(n), uintptr(n)
	return h
}

// P16.2, P2: as many commits as may be; what is wrong with a further one counts first.
func TestMostCommits(t *testing.T) {
	h := commits(api.MaxItems)
	for _, c := range []struct {
		a    api.Label
		id   int
		want api.Errno
	}{
		{api.Label{}, 1, api.ErrLimit},
		{api.Label{Level: 15}, api.MaxNum - 1, api.ErrLimit},
		{api.Label{}, 0, api.ErrArg},
		{api.Label{Level: 16}, 1, api.ErrLabel},
	} {
		if e := h.Commit(c.a, []api.Item{{ID: c.id}}); e != c.want {
			t.Errorf("Commit(%v, %d): %d; not %d", c.a, c.id, e, c.want)
		}
		if len(h.labels) != api.MaxItems || len(h.deltas) > 0 || len(h.head) > 0 || h.Next() != 1 {
			t.Fatalf("%d commits, deltas %v, head %v, next %d", len(h.labels), h.deltas, h.head, h.Next())
		}
	}
}
