// Package names tells of what sort the names of elements are.
package names

// Is is true if name is one of those that are asked for.
func Is(name string, asked ...string) bool {
	for _, one := range asked {
		if name == one {
			return true
		}
	}
	return false
}
