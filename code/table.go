package code

import "bobbin/api"

// names is what an operation names.
type names struct {
	r, a, b bool // registers
	free    bool // A may be noPlace, too, which is no register
	n       number
}

// noPlace is the A of an OLoad, or an OStore, of a global that is no array.
const noPlace = -1

// number is what N is the number of.
type number uint8

const (
	nothing number = iota
	anything
	oneKind // the Kind of an expression of one Arg
	twoKind // the Kind of an expression of two
	global
	lock
	callee // a Fun that may be called, with as many Args as it has Params
	goal
)

var operations = [...]names{
	api.OConst:   {r: true, n: anything},
	api.OMove:    {r: true, a: true},
	api.OUnary:   {r: true, a: true, n: oneKind},
	api.OBinary:  {r: true, a: true, b: true, n: twoKind},
	api.OLoad:    {r: true, a: true, free: true, n: global},
	api.OStore:   {a: true, b: true, free: true, n: global},
	api.OAcquire: {n: lock},
	api.ORelease: {n: lock},
	api.OPrint:   {a: true},
	api.OCall:    {r: true, n: callee},
	api.OJump:    {n: goal},
	api.OBranch:  {a: true, n: goal},
	api.OReturn:  {a: true},
}

// known says whether an operation is one.
func known(op uint8) bool { return api.OConst <= op && op <= api.OReturn }

// namesOf is what an operation names: one that is none names nothing.
func namesOf(op uint8) names {
	if !known(op) {
		return names{}
	}
	return operations[op]
}
