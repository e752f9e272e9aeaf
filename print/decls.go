package print

import (
	"strconv"

	"bobbin/api"
)

// program puts declarations, each with a line's end behind it.
func (put text) program(l []api.Decl) {
	for _, d := range l {
		put.decl(d)
		put("\n")
	}
}

// decl puts a declaration.
func (put text) decl(d api.Decl) {
	switch d.Kind {
	case api.Global:
		put("global ", d.Name, " = ", strconv.FormatInt(d.N, 10), ";")
	case api.Array:
		put("array ", d.Name, "[", strconv.FormatInt(d.N, 10), "];")
	case api.Lock:
		put("lock ", d.Name, ";")
	case api.Func:
		put("func ", d.Name, "(")
		put.list(len(d.Params), func(i int) { put(d.Params[i]) })
		put(") ")
		put.block(d.Body)
	case api.Thread:
		put("thread ", d.Name, " ")
		put.block(d.Body)
	}
}
