// Package owner holds what logs, cells and vaults (layers 9 to 11) have in common: how they, and their files, are called.
package owner

const mostName = 4 // letters of an owner's name

// IsName tells whether an owner of files may be called so.
func IsName(name string) bool {
	if len(name) < 1 || len(name) > mostName {
		return false
	}
	for i := range len(name) {
		if name[i] < 'a' || name[i] > 'z' {
			return false
		}
	}
	return true
}

// File answers the name of an owner's file.
func File(name, rest string) string {
	// The point keeps apart owners of whose names one begins with the other.
	return name + "." + rest
}
