package chain

import (
	"slices"

	"muniment/api"
	"muniment/head"
	"muniment/smt"
	"muniment/state"
	"muniment/wire"
)

const (
	heightBytes = 8
	mostState   = 1 << 20 // bytes of a state in a snapshot
)

// Encode is a chain as a snapshot: its name, where it stands, and its state; blocks are not in it.
func (c *Chain) Encode() string {
	if c == nil {
		return ""
	}
	w := wire.NewWriter()
	w.Text(c.name)
	head.PutMembers(w, c.first)
	w.Number(c.tip.Height, heightBytes)
	w.Hash(c.tip.Hash)
	head.PutMembers(w, c.tip.Members)
	w.Text(c.model.Encode())
	return w.All()
}

// Decode is the chain of a snapshot: without blocks.
func Decode(s string) (*Chain, api.Errno) {
	var c Chain
	r := wire.NewReader(s)
	c.name = r.Text(api.MaxKey)
	c.first = head.TakeMembers(r)
	c.tip.Height = r.Number(heightBytes)
	c.tip.Hash = r.Hash()
	c.tip.Members = head.TakeMembers(r)
	bytes := r.Text(mostState)
	if e := r.End(); e != api.OK {
		return nil, e
	}
	model, e := state.Decode(bytes)
	if e != api.OK {
		return nil, e
	}
	c.model, c.texts = model, treeOf(model)
	if c.tip.Height == 0 && !c.isNew() {
		return nil, api.ErrForm
	}
	return &c, api.OK
}

// treeOf is the tree of a state's texts, laid anew.
func treeOf(s *state.State) *smt.Tree {
	t := smt.New()
	for text, value := range s.All() {
		t.Put(text, value)
	}
	return t
}

// isNew tells whether all but the height is as it is ahead of the first block.
func (c *Chain) isNew() bool {
	return c.tip.Hash == c.Genesis() && c.model.Len() == 0 && slices.Equal(c.tip.Members, c.first)
}
