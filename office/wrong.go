package office

import "lampbox/api"

// wrong is what a wrong act panics with. Acts change the books only as the last thing they do, so that a wrong one changes nothing.
type wrong struct {
	err api.Errno
}

// demand ends an act with an error if something that it needs is not so.
func demand(holds bool, err api.Errno) {
	if !holds {
		panic(wrong{err})
	}
}

// expect ends an act with the error of a function, if it has one.
func expect(err api.Errno) {
	demand(err == api.OK, err)
}
