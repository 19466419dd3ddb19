package state

import (
	"slices"

	"muniment/api"
	"muniment/tx"
)

// Apply does a transaction, whole or not at all; which texts were put or taken away, rising.
func (s *State) Apply(t api.Tx) ([]string, api.Errno) {
	if s == nil {
		return nil, api.ErrArg
	}
	if e := tx.Check(t); e != api.OK {
		return nil, e
	}
	if last, _ := s.Last(t.Client); t.Nonce-1 != last { // does not wrap round: Check has refused 0
		return nil, api.ErrNonce
	}
	behind := s.Clone() // with an error nothing may be changed
	texts := []string{NonceOf(t.Client)}
	for _, o := range t.Ops {
		if !behind.agrees(o) {
			return nil, api.ErrCheck
		}
		if behind.do(o) {
			texts = append(texts, KeyOf(o.Key))
		}
	}
	behind.texts[NonceOf(t.Client)] = held{lastOf(t.Nonce, tx.ID(t))}
	if behind.Len() > api.MaxKeys {
		return nil, api.ErrRoom
	}
	s.texts = behind.texts
	slices.Sort(texts)
	return slices.Compact(texts), api.OK
}

// agrees tells whether a key has what an operation says that it must have.
func (s *State) agrees(o api.Op) bool {
	value, is := s.Get(o.Key)
	switch o.Kind {
	case api.OpCheck:
		return is && value == o.Value
	case api.OpNone:
		return !is
	}
	return true
}

// do puts an operation's key, or takes it away; whether it is an operation that does so.
func (s *State) do(o api.Op) bool {
	switch o.Kind {
	case api.OpPut:
		s.texts[KeyOf(o.Key)] = held{o.Value}
		return true
	case api.OpDel:
		delete(s.texts, KeyOf(o.Key))
		return true
	}
	return false
}
