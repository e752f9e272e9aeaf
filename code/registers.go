package code

import (
	"iter"

	"bobbin/api"
)

// read tells the registers that an instruction reads.
func read(i api.Ins) iter.Seq[int] {
	return func(yield func(int) bool) {
		has := namesOf(i.Op)
		if has.a && !(has.free && i.A == noPlace) && !yield(i.A) {
			return
		}
		if has.b && !yield(i.B) || has.n != callee {
			return
		}
		for _, r := range i.Args {
			if !yield(r) {
				return
			}
		}
	}
}

// registers tells all registers that an instruction names: the one that it writes, and those that it reads.
func registers(i api.Ins) iter.Seq[int] {
	return func(yield func(int) bool) {
		if r, writes := Writes(i); !writes || yield(r) {
			read(i)(yield)
		}
	}
}
