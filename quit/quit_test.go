package quit_test

import (
	"testing"

	"tabellion/api"
	"tabellion/quit"
)

func TestWorkThatIsDone(t *testing.T) {
	did := 0
	e := quit.Caught(func() {
		quit.Must(api.OK)
		did = quit.Take(7, api.OK)
	})
	if e != api.OK || did != 7 {
		t.Errorf("%d, %d", e, did)
	}
}

func TestTheFirstPartThatIsRefusedEndsWork(t *testing.T) {
	for e := api.ErrArg; e <= api.ErrLine; e++ {
		for _, part := range []func(){
			func() { quit.Must(e) },
			func() { quit.Take("x", e) },
		} {
			went := false
			got := quit.Caught(func() {
				part()
				went = true
				quit.Must(api.ErrNone)
			})
			if got != e || went {
				t.Errorf("%d: %d, went on: %v", e, got, went)
			}
		}
	}
}

func TestWorkWithinWorkEndsByItself(t *testing.T) {
	inner := api.OK
	e := quit.Caught(func() {
		inner = quit.Caught(func() { quit.Must(api.ErrFull) })
		quit.Must(api.ErrLost)
	})
	if inner != api.ErrFull || e != api.ErrLost {
		t.Errorf("%d within %d", inner, e)
	}
}

func TestAnotherPanicGoesOn(t *testing.T) {
	for _, cause := range []any{"a fault", api.ErrFull, 7} {
		func() {
			defer func() {
				if got := recover(); got != cause {
					t.Errorf("%v, not %v", got, cause)
				}
			}()
			quit.Caught(func() { panic(cause) })
		}()
	}
}
