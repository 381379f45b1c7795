package names

import (
	"slices"
	"strings"
	"testing"
)

func TestSorts(t *testing.T) {
	for _, c := range []struct {
		sort string
		list func() []string
		want string
	}{
		{"void", Void, "area base br col embed hr img input link meta source track wbr"},
		{"heads", Heads, "base link meta script style title"},
		{"texts", Texts, "script style textarea title"},
		{"headings", Headings, "h1 h2 h3 h4 h5 h6"},
		{"blocks", Blocks, "address article aside blockquote center details dialog dir div dl fieldset figcaption figure footer form h1 h2 h3 h4 h5 h6 header hgroup main menu nav ol p pre section summary table ul"},
		{"forms", Forms, "a b big code em font i nobr s small strike strong tt u"},
		{"tabled", Tabled, "caption table tbody td tfoot th thead tr"},
		{"walls", Walls, "body caption html table td th"},
	} {
		got := c.list()
		slices.Sort(got)
		if strings.Join(got, " ") != c.want {
			t.Errorf("%s: %q, want %q", c.sort, got, c.want)
		}
		// A list is the caller's own: it may be changed, and made longer.
		clear(append(got, "x"))
		if slices.Contains(c.list(), "") || slices.Contains(c.list(), "x") {
			t.Errorf("%s: a list is handed out twice", c.sort)
		}
	}
}
