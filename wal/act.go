package wal

import "hawser/api"

// act is one thing that is to be done, with all that it is done with.
type act func() api.Errno

// one is an act that takes one thing.
func one[A any](do func(A) api.Errno, a A) act {
	return func() api.Errno { return do(a) }
}

// two is an act that takes two things.
func two[A, B any](do func(A, B) api.Errno, a A, b B) act {
	return func() api.Errno { return do(a, b) }
}

// ask has acts done, one behind the other. With the first error the log has failed, since it cannot know any more what its file has.
func (l *Log) ask(acts ...act) api.Errno {
	for _, do := range acts {
		if err := do(); err != api.OK {
			l.closed = true
			return err
		}
	}
	return api.OK
}
