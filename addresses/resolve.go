package addresses

import (
	"strings"

	"folio/names"
)

// Resolve tells the address that a reference stands for, seen from base.
func Resolve(base, reference string) string {
	a := split(reference)
	if a.scheme.there {
		a.path = plain(a.path)
		return a.text()
	}
	b := split(base)
	a.scheme = b.scheme
	if a.host.there {
		a.path = plain(a.path)
		return a.text()
	}
	a.host = b.host
	switch {
	case a.path == "":
		// This path is taken as it is.
		a.path = b.path
		if !a.query.there {
			a.query = b.query
		}
	case strings.HasPrefix(a.path, "/"):
		a.path = plain(a.path)
	default:
		a.path = plain(b.folder() + a.path)
	}
	return a.text()
}

// folder is what a path without a "/" in front goes on from.
func (a address) folder() string {
	if a.host.there && a.path == "" {
		return "/"
	}
	return a.path[:strings.LastIndex(a.path, "/")+1]
}

// plain tells a path without the parts "." and "..".
func plain(path string) string {
	var left []string
	dots := false
	for _, one := range strings.Split(path, "/") {
		dots = names.Is(one, ".", "..")
		switch {
		case !dots:
			left = append(left, one)
		case one == ".." && !isFront(left):
			left = left[:max(len(left)-1, 0)]
		}
	}
	out := strings.Join(left, "/")
	if dots && len(left) > 0 {
		out += "/"
	}
	return out
}

// isFront is true if nothing is left but the empty part ahead of a first "/", over which ".." does not go.
func isFront(left []string) bool { return len(left) == 1 && left[0] == "" }
