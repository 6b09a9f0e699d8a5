package lift_test

import (
	"testing"
	"unsafe"

	"jalousie/api"
	"jalousie/lift"
)

// seeming is a list that seems to have so many items: as many would be 60 GB, so that it says a length that it does not have. The first two are there.
func seeming(n int) []api.Item {
	l := make([]api.Item, 2)
	// In memory a list is where it lies, its length, and its room.
	list := (*[3]uintptr)(unsafe.Pointer(&l))
	list[1], list[2] = uintptr(n), uintptr(n)
	return l
}

// P18.2, P2: as many items as may be; the numbers 0 and MaxInt are refused behind that, so that no items are laid down.
func TestMostItems(t *testing.T) {
	for _, c := range []struct {
		n    int
		v    api.View
		made string
		want api.Errno
	}{
		{api.MaxItems, at(), "", api.ErrArg},
		{api.MaxItems, at(0, 1), "01", api.ErrArg},
		{api.MaxItems, at(), "X", api.ErrLimit},
		{api.MaxItems, at(0, 1), "0X1", api.ErrLimit},
		{api.MaxItems, at(0), "X", api.ErrArg},
		{api.MaxItems, at(0, 1), "X1", api.ErrArg},
		{api.MaxItems, at(0, 1), "XYZ", api.ErrLimit},
		{api.MaxItems, at(0, 1), "0101", api.ErrArg},
		{api.MaxItems, at(1, 0), "X", api.ErrForm},
		{api.MaxItems - 1, at(), "X", api.ErrArg},
		{api.MaxItems - 1, at(), "XY", api.ErrLimit},
		{api.MaxItems - 3, at(0), "0XYZ", api.ErrArg},
		{api.MaxItems - 3, at(0), "WXYZ", api.ErrArg},
		{api.MaxItems - 3, at(0), "WX0YZ", api.ErrLimit},
		// More may be handed in, if enough are taken out.
		{api.MaxItems + 1, at(), "", api.ErrLimit},
		{api.MaxItems + 1, at(0, 1), "01", api.ErrLimit},
		{api.MaxItems + 1, at(0, 1), "1", api.ErrArg},
		{api.MaxItems + 1, at(0, 1), "X1", api.ErrLimit},
		{api.MaxItems + 1, at(0, 1), "X", api.ErrArg},
		{api.MaxItems + 2, at(0, 1, api.MaxItems+1), "2", api.ErrArg},
		{api.MaxItems + 2, at(0, 1, api.MaxItems+1), "12", api.ErrLimit},
		{1<<31 - 1, at(0, 1), "", api.ErrLimit},
		{1<<31 - 1, at(0, 1), "X", api.ErrLimit},
		{1<<62 + 1, at(0), "XYZ", api.ErrLimit},
	} {
		l := seeming(c.n)
		for _, next := range []int{0, -1, api.MaxNum + 1, 1<<63 - 1} {
			got, last, e := lift.Lift(l, c.v, api.Label{}, made(c.made), next)
			if e != c.want || len(got) > 0 || last != 0 {
				t.Errorf("%d items, made %s of %v, next %d: %d, not %d", c.n, c.made, c.v.At, next, e, c.want)
			}
		}
		if c.want == api.ErrLimit {
			if got, last, e := lift.Lift(l, c.v, api.Label{}, made(c.made), 1); e != c.want || len(got) > 0 || last != 0 {
				t.Errorf("%d items, made %s of %v: %d", c.n, c.made, c.v.At, e)
			}
		}
	}
}
