package mean

import "argus/api"

// leaving is why what is evaluated ends ahead of its end: nil if it does not. beyondLoop returns what goes on from a loop that it has ended.
type leaving interface{ beyondLoop() leaving }

// returned ends the routine.
type returned struct{ value api.Value }

// broken ends the innermost loop.
type broken struct{}

// signalled goes on to what handles the signal.
type signalled struct{ name string }

// givenUp ends an iterator, since the body of its loop is left: why, it says to the loop.
type givenUp struct{ by leaving }

func (l returned) beyondLoop() leaving { return l }

func (l broken) beyondLoop() leaving { return nil }

func (l signalled) beyondLoop() leaving { return l }

func (l givenUp) beyondLoop() leaving { return l }

// beyond returns what goes on from a loop whose body, or whose iterator, has ended.
func beyond(l leaving) leaving {
	if l == nil {
		return nil
	}
	return l.beyondLoop()
}
