package mem

import "bobbin/api"

// Unary is what an operation makes of a number.
func Unary(kind uint8, a int64) (int64, bool) {
	makes, ok := map[uint8]func(a int64) int64{
		api.Neg: func(a int64) int64 { return -a },
		api.Not: func(a int64) int64 { return truth(a == 0) },
	}[kind]
	if !ok {
		return 0, false
	}
	return makes(a), true
}

// Binary is what an operation makes of two numbers.
func Binary(kind uint8, a, b int64) (int64, bool) {
	if divides := kind == api.Div || kind == api.Mod; divides && b == 0 {
		return 0, false
	}
	// Two short maps, each asked where it is written, cost far less than a single one that a function hands out.
	if n, ok := number(kind, a, b); ok {
		return n, true
	}
	return compared(kind, a, b)
}

// number is what an operation makes that makes any number.
func number(kind uint8, a, b int64) (int64, bool) {
	makes, ok := map[uint8]func(a, b int64) int64{
		api.Add: func(a, b int64) int64 { return a + b },
		api.Sub: func(a, b int64) int64 { return a - b },
		api.Mul: func(a, b int64) int64 { return a * b },
		api.Div: func(a, b int64) int64 { return a / b },
		api.Mod: func(a, b int64) int64 { return a % b },
	}[kind]
	if !ok {
		return 0, false
	}
	return makes(a, b), true
}

// compared is what an operation makes that makes a truth.
func compared(kind uint8, a, b int64) (int64, bool) {
	holds, ok := map[uint8]func(a, b int64) bool{
		api.Less:   func(a, b int64) bool { return a < b },
		api.LessEq: func(a, b int64) bool { return a <= b },
		api.Equal:  func(a, b int64) bool { return a == b },
		api.Unlike: func(a, b int64) bool { return a != b },
		api.And:    func(a, b int64) bool { return a != 0 && b != 0 },
		api.Or:     func(a, b int64) bool { return a != 0 || b != 0 },
	}[kind]
	if !ok {
		return 0, false
	}
	return truth(holds(a, b)), true
}

// truth is the number of a truth.
func truth(holds bool) int64 {
	if holds {
		return 1
	}
	return 0
}
