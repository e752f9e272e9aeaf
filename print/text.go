package print

import "strings"

// text is a closure that is handed a text's pieces, in their row: it joins them, or does something else with them.
type text func(pieces ...string)

// joined is the text that is written.
func joined(write func(text)) string {
	var b strings.Builder
	write(func(pieces ...string) {
		for _, s := range pieces {
			b.WriteString(s)
		}
	})
	return b.String()
}

// size is how many bytes the text has that is written. None of it is kept, since it may be far more than there may be.
func size(write func(text)) int {
	n := 0
	write(func(pieces ...string) {
		for _, s := range pieces {
			n += len(s)
		}
	})
	return n
}

// list puts as many things as are asked, each by its number, with a comma between.
func (put text) list(count int, one func(int)) {
	for i := range count {
		if i > 0 {
			put(", ")
		}
		one(i)
	}
}
