package chain

import (
	"muniment/api"
	"muniment/state"
)

// State is the state, as one of its own.
func (c *Chain) State() *state.State {
	if c == nil {
		return nil
	}
	return c.model.Clone()
}

// Get is a key's value.
func (c *Chain) Get(key string) (string, bool) {
	if c == nil {
		return "", false
	}
	return c.model.Get(key)
}

// Last is a client's last number, and the digest of its transaction.
func (c *Chain) Last(client uint64) (uint64, string) {
	if c == nil {
		return 0, ""
	}
	return c.model.Last(client)
}

// Prove is a proof of what a text of the state has, under the last block's root.
func (c *Chain) Prove(text string) api.Proof {
	if c == nil {
		return api.Proof{}
	}
	return c.texts.Prove(text)
}
