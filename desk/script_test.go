package desk_test

import (
	"math/rand"
	"testing"

	"jalousie/api"
)

// P24.1 to P24.8, P2 to P4: scripts of ingests and submits at several labels.
func TestScripts(t *testing.T) {
	turn := rand.New(rand.NewSource(24))
	told := map[api.Errno]int{}
	for range 120 {
		b := make([]byte, 200+turn.Intn(800))
		turn.Read(b)
		runScript(t, b, told)
	}
	t.Log(counted(told))
	for _, e := range []api.Errno{api.OK, api.ErrForm, api.ErrKnown, api.ErrGone, api.ErrApply, api.ErrRight, api.ErrClash, api.ErrQuota} {
		if told[e] < 20 {
			t.Errorf("the error %d was answered %d times", e, told[e])
		}
	}
}

// The same, of scripts of the fuzzer's own.
func FuzzScript(f *testing.F) {
	f.Add([]byte{})
	f.Add([]byte("\x00\x00\x00\x07\x00\x00\x01\x00\x00\x02\x01\x00\x03\x00\x00\x00\x01\x05\x00\x04\x01\x04\x02\x04\x03"))
	turn := rand.New(rand.NewSource(42))
	for range 5 {
		b := make([]byte, 400)
		turn.Read(b)
		f.Add(b)
	}
	f.Fuzz(func(t *testing.T, b []byte) {
		if len(b) < 3000 {
			runScript(t, b, map[api.Errno]int{})
		}
	})
}
