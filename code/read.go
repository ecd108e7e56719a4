package code

import "riffle/api"

// must ends a reader that can't go on.
func must(ok bool) {
	if !ok {
		panic(api.ErrCode)
	}
}

// read is the program that a reader comes to, if that is one that may be.
func read(reader func() api.Program) (p api.Program, e api.Errno) {
	defer func() {
		if wrong := recover(); wrong != nil {
			p, e = api.Program{}, api.ErrCode
		}
	}()
	p = reader()
	must(May(p))
	return p, api.OK
}
