package names

import "testing"

func TestIs(t *testing.T) {
	for _, c := range []struct {
		name  string
		asked []string
		want  bool
	}{
		{"a", []string{"a"}, true},
		{"b", []string{"a", "b", "c"}, true},
		{"d", []string{"a", "b", "c"}, false},
		{"A", []string{"a"}, false},
		{"", []string{"a"}, false},
		{"a", nil, false},
	} {
		if got := Is(c.name, c.asked...); got != c.want {
			t.Errorf("Is(%q, %q) = %t", c.name, c.asked, got)
		}
	}
}
