package state

import (
	"slices"

	"sodality/api"
)

// work is parts on which an order is carried out at an index, and the place of the command of a transaction that was refused.
type work struct {
	parts
	index uint64
	at    int
}

// do carries out a command that may be.
func (w *work) do(c api.Cmd) api.Errno {
	return w.handler(c.Kind)(c)
}

// handler is what carries out the commands of a kind.
func (w *work) handler(kind int) func(api.Cmd) api.Errno {
	switch kind {
	case api.CNode:
		return w.node
	case api.CDropNode:
		return w.dropNode
	case api.CService:
		return w.service
	case api.CDropService:
		return w.dropService
	case api.CCheck:
		return w.check
	case api.CDropCheck:
		return w.dropCheck
	case api.CIntend:
		return w.intend
	case api.CTurn:
		return w.turn
	case api.CDropIntent:
		return w.dropIntent
	case api.CSet:
		return w.set
	case api.CCas:
		return w.cas
	case api.CDel:
		return w.del
	case api.CDelCas:
		return w.delCas
	case api.CLock:
		return w.lock
	case api.CUnlock:
		return w.unlock
	case api.COpen:
		return w.open
	case api.CClose:
		return w.shut
	}
	// Of the kinds that may be, the transaction's is left.
	return w.transact
}

// transact carries out commands one behind the other, up to the first that is refused.
func (w *work) transact(c api.Cmd) api.Errno {
	for at, sub := range c.Subs {
		if err := w.do(sub); err != api.OK {
			w.at = at
			return err
		}
	}
	return api.OK
}

// node lays a node.
func (w *work) node(c api.Cmd) api.Errno {
	return w.roster.Node(c.Node, c.Note, w.index)
}

// dropNode lets a node go, with its sessions.
func (w *work) dropNode(c api.Cmd) api.Errno {
	if err := w.roster.DropNode(c.Node, w.index); err != api.OK {
		return err
	}
	for _, id := range w.sessions.CloseNode(c.Node, w.index) {
		w.entries.Free(id, w.index)
	}
	return api.OK
}

// service lays a service.
func (w *work) service(c api.Cmd) api.Errno {
	return w.roster.Service(api.Service{Node: c.Node, Id: c.Id, Name: c.Name, Tags: c.Tags, Port: c.Port}, w.index)
}

// dropService lets a service go.
func (w *work) dropService(c api.Cmd) api.Errno {
	return w.roster.DropService(c.Node, c.Id, w.index)
}

// check lays a check.
func (w *work) check(c api.Cmd) api.Errno {
	return w.roster.Check(api.Check{Node: c.Node, Id: c.Id, Service: c.Service, Note: c.Note, Status: c.Status}, w.index)
}

// dropCheck lets a check go.
func (w *work) dropCheck(c api.Cmd) api.Errno {
	return w.roster.DropCheck(c.Node, c.Id, w.index)
}

// intend adds an intention.
func (w *work) intend(c api.Cmd) api.Errno {
	return w.intents.Add(c.Src, c.Dst, c.Allow, w.index)
}

// turn turns an intention.
func (w *work) turn(c api.Cmd) api.Errno {
	return w.intents.Turn(c.Src, c.Dst, c.Allow, c.Old, w.index)
}

// dropIntent lets an intention go.
func (w *work) dropIntent(c api.Cmd) api.Errno {
	return w.intents.Drop(c.Src, c.Dst, c.Old, w.index)
}

// set sets a key's value.
func (w *work) set(c api.Cmd) api.Errno {
	return w.entries.Set(c.Key, c.Value, w.index)
}

// cas sets it, if nothing has come between.
func (w *work) cas(c api.Cmd) api.Errno {
	return w.entries.Cas(c.Key, c.Value, c.Old, w.index)
}

// del lets a key go.
func (w *work) del(c api.Cmd) api.Errno {
	return w.entries.Del(c.Key, w.index)
}

// delCas lets it go, if nothing has come between.
func (w *work) delCas(c api.Cmd) api.Errno {
	return w.entries.DelCas(c.Key, c.Old, w.index)
}

// lock lets a session that there is hold a key.
func (w *work) lock(c api.Cmd) api.Errno {
	// No session has the number 0, of which the entries themselves tell what is wrong.
	if _, is := w.sessions.Get(c.Session); !is && c.Session != 0 {
		return api.ErrNone
	}
	return w.entries.Lock(c.Key, c.Value, c.Session, w.index)
}

// unlock lets it hold it no more, whether it is there or not.
func (w *work) unlock(c api.Cmd) api.Errno {
	return w.entries.Unlock(c.Key, c.Value, c.Session, w.index)
}

// open opens a session of a node that there is.
func (w *work) open(c api.Cmd) api.Errno {
	if !slices.ContainsFunc(w.roster.Nodes(), func(n api.Node) bool { return n.Node == c.Node }) {
		return api.ErrNone
	}
	_, err := w.sessions.Open(c.Node, w.index)
	return err
}

// shut closes a session.
func (w *work) shut(c api.Cmd) api.Errno {
	if err := w.sessions.Close(c.Session, w.index); err != api.OK {
		return err
	}
	w.entries.Free(c.Session, w.index)
	return api.OK
}
