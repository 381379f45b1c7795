package tree

// deeds are told by the names of tags.
type deeds map[string][]deed

// What Starts and Ends do: the early ones in front and in the head, the others in the body.
var (
	earlyStarts = deeds{}
	earlyEnds   = deeds{}
	starts      = deeds{}
	ends        = deeds{}
)

func init() {
	earlyStartRules(earlyStarts.add)
	earlyEndRules(earlyEnds.add)
	startRules(starts.add)
	endRules(ends.add)
}

func (d deeds) add(do deed, asked ...string) {
	for _, name := range asked {
		d[name] = append(d[name], do)
	}
}

func (d deeds) of(name string) []deed {
	list, known := d[name]
	if !known {
		list = d[others]
	}
	return list
}
