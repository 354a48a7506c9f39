package world

import "sequitur/api"

// value returns the value of a part of a term or of a claim if the variables and the binders around it have the values in the slots; of a claim it is 1 if it holds, and 0 if not.
type value func(slots []int64) (int64, api.Errno)

// constant is always n.
func constant(n int64) value {
	return func([]int64) (int64, api.Errno) { return n, api.OK }
}

// failed is what has no value because of e.
func failed(e api.Errno) value {
	return func([]int64) (int64, api.Errno) { return 0, e }
}

// in is what stands in that slot.
func in(slot int) value {
	return func(slots []int64) (int64, api.Errno) { return slots[slot], api.OK }
}

// both is what f makes of a and b; f returns false if that does not fit.
func both(a, b value, f func(x, y int64) (int64, bool)) value {
	return func(slots []int64) (int64, api.Errno) {
		x, e := a(slots)
		if e != api.OK {
			return 0, e
		}
		y, e := b(slots)
		if e != api.OK {
			return 0, e
		}
		z, ok := f(x, y)
		if !ok {
			return 0, api.ErrRange
		}
		return z, api.OK
	}
}

// entry is what the table has for args, each of which has so many values; there is nothing in an empty table.
func entry(table []int, args []value, counts []int) value {
	return func(slots []int64) (int64, api.Errno) {
		at := 0
		for i, arg := range args {
			n, e := arg(slots)
			if e != api.OK {
				return 0, e
			}
			at = at*counts[i] + int(n)
		}
		if len(table) == 0 {
			return 0, api.ErrArg
		}
		return int64(table[at]), api.OK
	}
}

// enough is whether sub holds for at least so many of the values of the slot behind all others.
func enough(sub value, values, wanted int) value {
	return func(slots []int64) (int64, api.Errno) {
		slots = append(slots, 0)
		n := 0
		for v := range values {
			slots[len(slots)-1] = int64(v)
			holds, e := sub(slots)
			if e != api.OK {
				return 0, e
			}
			n += int(holds)
		}
		return truth(n >= wanted), api.OK
	}
}

// unless is whether one of the hypotheses does not hold or the goal does.
func unless(hyps []value, goal value) value {
	return func(slots []int64) (int64, api.Errno) {
		given := int64(1)
		for _, h := range hyps {
			holds, e := h(slots)
			if e != api.OK {
				return 0, e
			}
			given = min(given, holds)
		}
		holds, e := goal(slots)
		if e != api.OK {
			return 0, e
		}
		return truth(given <= holds), api.OK
	}
}

// equal, ordered, lesser and greater take two numbers as num's calls do; what they return always fits.
func equal(x, y int64) (int64, bool)   { return truth(x == y), true }
func ordered(x, y int64) (int64, bool) { return truth(x <= y), true }
func lesser(x, y int64) (int64, bool)  { return min(x, y), true }
func greater(x, y int64) (int64, bool) { return max(x, y), true }

// truth is the value of a claim.
func truth(holds bool) int64 {
	if holds {
		return 1
	}
	return 0
}
