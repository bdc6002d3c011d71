package fs

import (
	"slices"

	"hypostyle/api"
	"hypostyle/naming"
)

// changed: a file system that is being changed: a copy that nobody else has.
type changed struct{ api.FS }

// copied: one that is not changed yet.
func copied(f api.FS) *changed {
	return &changed{api.FS{
		Nodes:  slices.Clone(f.Nodes),
		Dir:    slices.Clone(f.Dir),
		Synced: slices.Clone(f.Synced),
	}}
}

// staying: the nodes that a directory names, now or for good; nobody has told yet the
// places that they get.
func staying(f api.FS) map[int]int {
	stay := map[int]int{}
	for _, n := range f.Dir {
		stay[n.Node] = 0
	}
	for _, n := range f.Synced {
		stay[n.Node] = 0
	}
	return stay
}

// sweep: nodes that do not stay go, the others keep their order.
func (c *changed) sweep() {
	stay := staying(c.FS)
	var nodes []api.Node
	for at, n := range c.Nodes {
		if _, stays := stay[at]; stays {
			stay[at] = len(nodes)
			nodes = append(nodes, n)
		}
	}
	c.Nodes = nodes
	for at, n := range c.Dir {
		c.Dir[at].Node = stay[n.Node]
	}
	for at, n := range c.Synced {
		c.Synced[at].Node = stay[n.Node]
	}
}

// land: what a node has now it has for good; or what it has for good it has now.
func (c *changed) land(at int, live bool) {
	n := &c.Nodes[at]
	if live {
		n.Synced = n.Live
	} else {
		n.Live = n.Synced
	}
}

// syncDir: the directory as it is now is so for good.
func (c *changed) syncDir() { c.Synced = slices.Clone(c.Dir) }

// enter a node into the directory, under a name that may be another one's.
func (c *changed) enter(name string, node int) {
	at, there := place(c.Dir, name)
	if there {
		c.Dir[at].Node = node
	} else {
		c.Dir = slices.Insert(c.Dir, at, api.Entry{Name: name, Node: node})
	}
}

// write: a file has a text now, one of a new node, if there is none of that name.
func (c *changed) write(name, text string) api.Errno {
	at, there := place(c.Dir, name)
	switch {
	case there:
		c.Nodes[c.Dir[at].Node].Live = text
	case len(c.Nodes) == api.MaxNodes:
		return api.ErrMany
	default:
		c.enter(name, len(c.Nodes))
		c.Nodes = append(c.Nodes, api.Node{Live: text})
	}
	return api.OK
}

// turn: an op on a file that must be there.
func (c *changed) turn(o api.Op) api.Errno {
	at, there := place(c.Dir, o.Name)
	if !there {
		return api.ErrNone
	}
	node := c.Dir[at].Node
	switch o.Kind {
	case api.OpSync:
		c.land(node, true)
	case api.OpRename:
		c.Dir = slices.Delete(c.Dir, at, at+1)
		c.enter(o.To, node)
	case api.OpRemove:
		c.Dir = slices.Delete(c.Dir, at, at+1)
	}
	return api.OK
}

// said: is an op told as one of its kind is?
func said(o api.Op) bool {
	name, to := naming.IsName(o.Name), o.To == ""
	switch o.Kind {
	case api.OpSyncDir:
		name = o.Name == ""
	case api.OpRename:
		to = naming.IsName(o.To)
	}
	return name && to && (o.Text == "" || o.Kind == api.OpWrite)
}

// do an op, if nothing is wrong with it (W2).
func (c *changed) do(o api.Op) api.Errno {
	switch {
	case o.Kind < api.OpWrite || o.Kind > api.OpSyncDir:
		return api.ErrKind
	case !said(o):
		return api.ErrForm
	case len(o.Text) > api.MaxFile:
		return api.ErrMany
	}
	e := api.OK
	switch o.Kind {
	case api.OpWrite:
		e = c.write(o.Name, o.Text)
	case api.OpSyncDir:
		c.syncDir()
	default:
		e = c.turn(o)
	}
	if e == api.OK {
		c.sweep()
	}
	return e
}
