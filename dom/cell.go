package dom

import (
	"slices"

	"beadle/api"
)

// cell is a node and where it stands.
type cell struct {
	node   Node
	more   []byte         // of the Data, behind node.Data: texts grow scalar by scalar
	names  map[string]int // of node.Attrs, once one is set: how often each is there
	parent int
	ahead  int // how many kids of the parent stand ahead of this one
	kids   []int
}

func (c *cell) told() Node {
	n := c.node
	n.Data += string(c.more)
	n.Attrs = slices.Clone(n.Attrs)
	return n
}

func (c *cell) set(a api.Attr) bool {
	if c.node.Kind != Element {
		return false
	}
	c.learnNames()
	if c.names[a.Name] > 0 {
		return false
	}
	c.names[a.Name]++
	c.node.Attrs = append(c.node.Attrs, a)
	return true
}

// learnNames keeps many attributes that are set one by one from being gone through each time.
func (c *cell) learnNames() {
	if c.names != nil {
		return
	}
	c.names = map[string]int{}
	for _, a := range c.node.Attrs {
		c.names[a.Name]++
	}
}
