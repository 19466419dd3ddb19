package raft_test

import (
	"fmt"
	"math/rand"
	"slices"
	"testing"

	"muniment/api"
	"muniment/raft"
)

// ids is how many replicas there may be in a cluster that is drawn.
const ids = 6

// cluster is replicas with a network that loses, doubles and reorders, and what was seen of them.
type cluster struct {
	t       *testing.T
	r       *rand.Rand
	nodes   []*raft.Node
	net     []api.RaftMsg
	leaders map[int]int          // of each term
	agreed  map[int]api.LogEntry // of each index
	said    map[int]int          // by index, who committed it first
	n       int                  // how many texts were proposed
	from    api.Hard             // what all had at first
	seen    map[string]int       // how often something came to pass
}

// newCluster is one in which these take part at first.
func newCluster(t *testing.T, seed int) *cluster {
	r := rand.New(rand.NewSource(int64(seed)))
	c := &cluster{t: t, r: r, leaders: map[int]int{}, agreed: map[int]api.LogEntry{}, said: map[int]int{}, from: fresh(0, 1, 2), seen: map[string]int{}}
	for me := range ids {
		c.nodes = append(c.nodes, stands(t, me, c.from, draws(r)...))
	}
	return c
}

// prefix is the snapshot of all that was agreed up to an index.
func (c *cluster) prefix(index int) string {
	s := ""
	for i := 1; i <= index; i++ {
		s += fmt.Sprintf("%d=%v;", i, c.agreed[i])
	}
	return s
}

// sends puts what is told under way, as its bytes tell it.
func (c *cluster) sends(l []api.RaftMsg) {
	for _, m := range l {
		if !raft.Check(m) {
			c.t.Fatalf("told what may not be: %+v", m)
		}
		c.net = append(c.net, taken(c.t, m))
	}
}

// looks holds what 14.3 tells.
func (c *cluster) looks(me int) {
	n := c.nodes[me]
	if n.Role() == api.Leader {
		if who, there := c.leaders[n.Term()]; there && who != me {
			c.t.Fatalf("%d and %d lead in the term %d", who, me, n.Term())
		}
		c.leaders[n.Term()] = me
	}
	h := n.Hard()
	for i := h.BaseIndex + 1; i <= n.Commit(); i++ {
		e, there := n.Entry(i)
		if first, before := c.agreed[i]; !there || before && text(first) != text(e) {
			c.t.Fatalf("at %d: %d has %+v, %v, %d had %+v", i, me, e, there, c.said[i], first)
		} else if !before {
			c.agreed[i], c.said[i] = e, me
		}
	}
	if h.Base != c.prefix(h.BaseIndex) {
		c.t.Fatalf("%d has the snapshot %q of %d, want %q", me, h.Base, h.BaseIndex, c.prefix(h.BaseIndex))
	}
	if l, _ := confAt(c, h.BaseIndex); text(h.BaseConf) != text(l) {
		c.t.Fatalf("%d: by the snapshot of %d %v take part, want %v", me, h.BaseIndex, h.BaseConf, l)
	}
}

// confAt is who takes part by what was agreed up to an index.
func confAt(c *cluster, index int) ([]int, int) {
	for i := index; i > 0; i-- {
		if c.agreed[i].Conf {
			return c.agreed[i].Members, i
		}
	}
	return c.from.BaseConf, 0
}

// ticks lets a tick pass at somebody.
func (c *cluster) ticks(me int) {
	c.sends(c.nodes[me].Tick())
	c.looks(me)
}

// comes lets a message come that is under way, or lets it go.
func (c *cluster) comes(i int, stays bool) {
	m := c.net[i]
	if !stays {
		c.net = slices.Delete(c.net, i, i+1)
	}
	before := c.nodes[m.To].Hard().BaseIndex
	c.sends(c.nodes[m.To].Step(m))
	if c.nodes[m.To].Hard().BaseIndex != before {
		c.seen["snapshot"]++
	}
	c.looks(m.To)
}

// falls lets somebody lose its power, and stand up with what it kept.
func (c *cluster) falls(me int) {
	c.nodes[me] = stands(c.t, me, c.nodes[me].Hard(), draws(c.r)...)
	c.looks(me)
}

// proposes lets somebody propose a text, or that one comes or goes.
func (c *cluster) proposes(me int) {
	n := c.nodes[me]
	c.n++
	if c.r.Intn(3) > 0 {
		_, out, _ := n.Propose(fmt.Sprint("t", c.n))
		c.sends(out)
		c.looks(me)
		return
	}
	l, who := n.Members(), c.r.Intn(ids)
	if i := slices.Index(l, who); i < 0 {
		l = append(l, who)
		slices.Sort(l)
	} else {
		l = slices.Delete(l, i, i+1)
	}
	_, out, yes := n.Change(l)
	if yes {
		c.seen["change"]++
	}
	c.sends(out)
	c.looks(me)
}

// compacts lets somebody lay a snapshot.
func (c *cluster) compacts(me int) {
	n := c.nodes[me]
	base := n.Hard().BaseIndex
	index := base + c.r.Intn(n.Commit()-base+1)
	if n.Compact(index, c.prefix(index)) != (index > base) {
		c.t.Fatalf("%d: no snapshot of %d above %d", me, index, base)
	}
	c.looks(me)
}

// happens lets something happen.
func (c *cluster) happens(loss int) {
	me := c.r.Intn(ids)
	switch k := c.r.Intn(200); {
	case k < 40:
		for range c.r.Intn(4) {
			c.ticks(me)
		}
	case k < 42:
		c.falls(me)
	case k < 58:
		c.proposes(me)
	case k < 63:
		c.compacts(me)
	case len(c.net) == 0:
	case c.r.Intn(100) < loss:
		i := c.r.Intn(len(c.net))
		c.net = slices.Delete(c.net, i, i+1)
	default:
		i := 0
		if c.r.Intn(3) == 0 {
			i = c.r.Intn(len(c.net))
		}
		c.comes(i, len(c.net) < 40 && c.r.Intn(8) == 0)
	}
	if len(c.net) > 60 {
		c.net = c.net[30:]
	}
}

// calm lets rounds pass in which nothing is lost.
func (c *cluster) calm(rounds int) {
	for range rounds {
		for me := range c.nodes {
			c.ticks(me)
		}
		for range len(c.net) {
			c.comes(0, false)
		}
	}
}

// leads is who leads in the greatest term, -1 if nobody does.
func (c *cluster) leads() int {
	out := -1
	for me, n := range c.nodes {
		if n.Role() == api.Leader && (out < 0 || n.Term() > c.nodes[out].Term()) {
			out = me
		}
	}
	return out
}

// Promise 14.3: messages are lost, doubled and reordered, replicas lose their power, come and go, and lay snapshots: at most one leads in a term, and what is committed is the same at all. When nothing fails any more, all that take part commit the same.
func TestClusters(t *testing.T) {
	seen := map[string]int{}
	for seed := range 100 {
		c := newCluster(t, seed)
		for range 2500 {
			c.happens(seed % 4 * 6)
		}
		c.calm(400)
		lead := c.leads()
		if lead < 0 {
			t.Fatalf("seed %d: nobody leads", seed)
		}
		index, out, _ := c.nodes[lead].Propose("last")
		c.sends(out)
		c.calm(30)
		for _, me := range c.nodes[lead].Members() {
			if n := c.nodes[me]; n.Commit() < index || n.Leader() != lead {
				t.Fatalf("seed %d: %d committed %d, and follows %d; %d leads, and proposed at %d", seed, me, n.Commit(), n.Leader(), lead, index)
			}
		}
		is(t, "the last entry", c.agreed[index].S, "last")
		seen["terms"] += len(c.leaders)
		seen["entries"] += len(c.agreed)
		for what, n := range c.seen {
			seen[what] += n
		}
	}
	for what, least := range map[string]int{"terms": 300, "entries": 1500, "snapshot": 100, "change": 300} {
		if seen[what] < least {
			t.Errorf("%d times alone: %s", seen[what], what)
		}
	}
}
