package color

import "argus/api"

// stop leaves what cannot be done.
type stop struct{ api.Errno }

// attempt returns what do returns, or the error with which it stopped.
func attempt(do func() api.Flow) (f api.Flow, e api.Errno) {
	defer func() {
		if s, isStop := recover().(stop); isStop {
			f, e = api.Flow{}, s.Errno
		}
	}()
	return do(), api.OK
}

// must returns a result, and stops where there is an error.
func must[T any](x T, e api.Errno) T {
	if e != api.OK {
		panic(stop{e})
	}
	return x
}
