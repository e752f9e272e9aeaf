package code_test

import (
	"fmt"
	"regexp"
	"slices"
	"strings"

	"bobbin/api"
)

// This file says what the chapter says in other words: an instruction may be, if one that has nothing but what
// its operation names is the same, written out, and that is of what there is.

// written is anything written out; lists that are empty are alike.
func written(x any) string { return strings.ReplaceAll(fmt.Sprintf("%#v", x), "(nil)", "{}") }

func okIns(p api.Prog, fun int, i api.Ins) bool {
	if fun < 0 || fun >= len(p.Funs) {
		return false
	}
	f := p.Funs[fun]
	reg := func(l ...int) bool {
		return !slices.ContainsFunc(l, func(r int) bool { return r <= -1 || r > f.Regs-1 })
	}
	place := i.A == -1 || reg(i.A)
	of := func(count int) bool { return i.N > -1 && i.N <= int64(count)-1 }
	only := func(j api.Ins) bool { j.Op = i.Op; return written(i) == written(j) }
	switch i.Op {
	case api.OConst:
		return reg(i.R) && only(api.Ins{R: i.R, N: i.N})
	case api.OMove:
		return reg(i.R, i.A) && only(api.Ins{R: i.R, A: i.A})
	case api.OUnary:
		return reg(i.R, i.A) && (i.N == 5 || i.N == 6) && only(api.Ins{R: i.R, A: i.A, N: i.N})
	case api.OBinary:
		return reg(i.R, i.A, i.B) && 6 < i.N && i.N < 18 && only(api.Ins{R: i.R, A: i.A, B: i.B, N: i.N})
	case api.OLoad:
		return reg(i.R) && place && of(len(p.Mems)) && only(api.Ins{R: i.R, A: i.A, N: i.N})
	case api.OStore:
		return place && reg(i.B) && of(len(p.Mems)) && only(api.Ins{A: i.A, B: i.B, N: i.N})
	case api.OAcquire, api.ORelease:
		return of(len(p.Locks)) && only(api.Ins{N: i.N})
	case api.OPrint, api.OReturn:
		return reg(i.A) && only(api.Ins{A: i.A})
	case api.OCall:
		if !of(len(p.Funs)) || p.Funs[i.N].Thread {
			return false
		}
		return reg(i.R) && reg(i.Args...) && len(i.Args) == p.Funs[i.N].Params && only(api.Ins{R: i.R, N: i.N, Args: i.Args})
	case api.OJump:
		return of(len(f.Code)) && only(api.Ins{N: i.N})
	case api.OBranch:
		return reg(i.A) && of(len(f.Code)) && only(api.Ins{A: i.A, N: i.N})
	}
	return false
}

var nameForm = regexp.MustCompile(`^[a-zA-Z_][a-zA-Z0-9_]{0,31}$`)

const reserved = " global array lock func thread var if else while with print call return true false "

func okProgram(p api.Prog) bool {
	names, threads, fine := slices.Clone(p.Locks), 0, true
	for _, m := range p.Mems {
		names = append(names, m.Name)
		fine = fine && m.Size > 0 && m.Size <= 1024
	}
	for fun, f := range p.Funs {
		names = append(names, f.Name)
		if f.Thread {
			threads++
			fine = fine && f.Params == 0
		}
		fine = fine && f.Params >= 0 && f.Params <= 8 && f.Regs >= f.Params && f.Regs <= 4096 && len(f.Code) > 0 && len(f.Code) <= 16384
		for at, i := range f.Code {
			last := at == len(f.Code)-1
			fine = fine && okIns(p, fun, i) && (!last || i.Op == api.OJump || i.Op == api.OReturn)
		}
	}
	slices.Sort(names)
	count := len(names)
	fine = fine && count <= 256 && threads <= 16 && len(slices.Compact(slices.Clone(names))) == count
	return fine && !slices.ContainsFunc(names, func(s string) bool {
		return !nameForm.MatchString(s) || strings.Contains(reserved, " "+s+" ")
	})
}

// named is what an instruction reads, the register that it writes, and the number to which it jumps, or branches.
func named(i api.Ins) (reads []int, writes, goal []int) {
	place := []int{i.A}
	if i.A == -1 {
		place = nil
	}
	r, n := []int{i.R}, []int{int(i.N)}
	switch i.Op {
	case api.OConst:
		return nil, r, nil
	case api.OMove, api.OUnary:
		return []int{i.A}, r, nil
	case api.OBinary:
		return []int{i.A, i.B}, r, nil
	case api.OLoad:
		return place, r, nil
	case api.OStore:
		return append(place, i.B), nil, nil
	case api.OPrint, api.OReturn:
		return []int{i.A}, nil, nil
	case api.OCall:
		return i.Args, r, nil
	case api.OJump:
		return nil, nil, n
	case api.OBranch:
		return []int{i.A}, nil, n
	}
	return nil, nil, nil
}
