// Package list makes lists of others; each is new memory, and nil if there is nothing in it.
package list

// Keep gives those of l that are as asked for, in their order.
func Keep[T any](l []T, is func(T) bool) []T {
	var out []T
	for _, v := range l {
		if is(v) {
			out = append(out, v)
		}
	}
	return out
}

// Drop gives those of l that are not as asked for, in their order.
func Drop[T any](l []T, is func(T) bool) []T {
	return Keep(l, func(v T) bool { return !is(v) })
}

// Turn gives what each of l is turned into, in their order.
func Turn[T, U any](l []T, into func(T) U) []U {
	var out []U
	for _, v := range l {
		out = append(out, into(v))
	}
	return out
}
