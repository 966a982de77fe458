package expr

import "beadle/api"

// wrong is what is thrown where an expression can't be gone on with, and where in its text.
type wrong struct {
	at   int
	code api.Errno
}

// told: what was thrown, if anything was; a mistake of our own is thrown on.
func told(thrown any) (wrong, bool) {
	if thrown == nil {
		return wrong{}, false
	}
	w, ok := thrown.(wrong)
	if !ok {
		panic(thrown)
	}
	return w, true
}
