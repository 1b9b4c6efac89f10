package check

import "catapult/api"

// wrong is what typing is given up with: what is wrong, and where.
type wrong struct {
	at   int
	code api.Errno
}

// want gives up, unless something is so.
func want(ok bool, at int, code api.Errno) {
	if !ok {
		panic(wrong{at, code})
	}
}

// caught does something, and tells what it was given up with.
func caught(do func()) (f api.Fault) {
	defer func() {
		switch x := recover().(type) {
		case nil:
		case wrong:
			f = api.Fault{At: x.at, Code: x.code}
		default:
			panic(x)
		}
	}()
	do()
	return api.Fault{}
}
