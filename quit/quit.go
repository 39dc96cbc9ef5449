// Package quit holds what several layers have in common: work that is made of parts, and that the first part that is
// refused ends.
package quit

import "tabellion/api"

// refused is what work gives up with. It is a type of its own, so that no other panic is taken for it.
type refused struct{ errno api.Errno }

// Must gives up where there is an error.
func Must(errno api.Errno) {
	if errno != api.OK {
		panic(refused{errno})
	}
}

// Take what a part answered, or give up.
func Take[T any](v T, errno api.Errno) T {
	Must(errno)
	return v
}

// Caught does work, and answers what it gave up with; OK, if it didn't.
func Caught(work func()) (errno api.Errno) {
	defer func() {
		cause := recover()
		if cause == nil {
			return
		}
		gave, ok := cause.(refused)
		if !ok {
			panic(cause) // a fault of the program, not of what it was given
		}
		errno = gave.errno
	}()
	work()
	return api.OK
}
