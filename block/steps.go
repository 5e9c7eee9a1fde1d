package block

import "icehouse/api"

// need: the step before was OK. Else its error leaves all steps behind it as a
// panic, up to told.
func need(e api.Errno) {
	if e != api.OK {
		panic(e)
	}
}

// got: what a step answers that was OK.
func got[T any](x T, e api.Errno) T {
	need(e)
	return x
}

// told: the error of the step that failed.
func told(steps func()) (e api.Errno) {
	defer func() {
		// A panic with anything else is no step's, and stays one.
		if failed := recover(); failed != nil {
			e = failed.(api.Errno)
		}
	}()
	steps()
	return api.OK
}

// made: what the steps make; nothing, where one failed.
func made[T any](steps func() T) (x T, e api.Errno) {
	e = told(func() { x = steps() })
	return x, e
}
