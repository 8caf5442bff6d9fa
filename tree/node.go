package tree

import (
	"cmp"
	"slices"

	"hermitage/api"
	"hermitage/name"
)

// node is a file of a volume, where it stands there: what is done to it is done to the volume.
type node struct {
	*api.File
}

// mayBe looks at the file by itself: whether its links lead anywhere, only the volume knows.
func (n node) mayBe() bool {
	if n.Dir {
		return n.Size == 0 && len(n.Blocks) == 0 && n.namesMayBe()
	}
	return len(n.List) == 0 && n.sizeMayBe()
}

func (n node) namesMayBe() bool {
	if len(n.List) > api.MaxLinks {
		return false
	}
	for i, l := range n.List {
		if name.Check(l.Name) != api.OK || i > 0 && n.List[i-1].Name >= l.Name {
			return false
		}
	}
	return true
}

// sizeMayBe holds Size against its limits first: the sum would wrap round near the greatest number.
func (n node) sizeMayBe() bool {
	if !within(0, api.MaxText, n.Size) {
		return false
	}
	return len(n.Blocks) == (n.Size+api.Sector-1)/api.Sector && within(0, api.MaxNum-1, n.Blocks...)
}

func (n node) isFull() bool {
	return len(n.List) >= api.MaxLinks
}

// linked is the ID that the link of that name has, if there is such a link.
func (n node) linked(s string) (int, bool) {
	for _, l := range n.List {
		if l.Name == s {
			return l.ID, true
		}
	}
	return 0, false
}

func (n node) links(id int) int {
	many := 0
	for _, l := range n.List {
		if l.ID == id {
			many++
		}
	}
	return many
}

func (n node) add(links ...api.Link) {
	n.List = append(n.List, links...)
	slices.SortFunc(n.List, func(a api.Link, b api.Link) int { return cmp.Compare(a.Name, b.Name) })
}

func (n node) drop(s string) {
	n.List = slices.DeleteFunc(n.List, func(l api.Link) bool { return l.Name == s })
}

// place is where a link stands, or might stand: the directory, and the link's name in it.
type place struct {
	node
	last string
}

func (p place) isTaken() bool {
	_, is := p.linked(p.last)
	return is
}

// put lets the place name id.
func (p place) put(id int) {
	p.add(api.Link{Name: p.last, ID: id})
}

func (p place) clear() {
	p.drop(p.last)
}
