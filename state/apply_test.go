package state_test

import (
	"math"
	"slices"
	"testing"

	"sodality/api"
	"sodality/intent"
	"sodality/kv"
	"sodality/roster"
	"sodality/session"
	"sodality/state"
)

// invalid is commands that may not be.
func invalid() []api.Cmd {
	l := []api.Cmd{
		{}, {Kind: -1}, {Kind: 19}, {Kind: 256 + api.CSet, Key: "a"}, {Kind: math.MaxInt}, {Kind: math.MinInt},
		{Kind: api.CNode, Node: -1}, {Kind: api.CNode, Node: 65536}, {Kind: api.CNode, Node: math.MinInt}, {Kind: api.CNode, Node: 1 << 32},
		{Kind: api.CNode, Note: sized(81)}, {Kind: api.CNode, Key: "a"},
		{Kind: api.CService, Id: "a", Name: "a", Port: 65536}, {Kind: api.CService, Id: "a", Name: "a", Port: -1}, {Kind: api.CService, Id: "a", Name: "a", Tags: make([]string, 9)},
		{Kind: api.CService, Id: "a", Name: "a", Tags: []string{sized(81)}},
		{Kind: api.CCheck, Id: "a", Status: -1}, {Kind: api.CCheck, Id: "a", Status: 65536},
		{Kind: api.CSet, Key: "a", Old: 1}, {Kind: api.CSet, Key: "a", Session: 1}, {Kind: api.CSet, Key: "a", Value: sized(81)}, {Kind: api.CSet, Key: "a", Subs: []api.Cmd{{}}},
		{Kind: api.CDel, Key: "a", Value: "1"}, {Kind: api.COpen, Node: 1, Session: 1}, {Kind: api.CClose, Session: 14, Node: 1},
		{Kind: api.CIntend, Src: "a", Dst: "b", Old: 1}, {Kind: api.CTxn, Node: 1},
		txn(make([]api.Cmd, 1)...), txn(txn()), txn(onKey(api.CSet, "a", "", 0), txn(onKey(api.CSet, "a", "", 0))), txn(onKey(api.CSet, "a", "", 0), api.Cmd{Kind: 19}),
	}
	return append(l, txn(slices.Repeat([]api.Cmd{onKey(api.CSet, "a", "", 0)}, 9)...))
}

// P21.1: a command that may not be is ErrArg, whatever the client and the number, also where the order was done already, or is stale; and nothing changes.
func TestP211Arg(t *testing.T) {
	s, m := sample(t, 9)
	for _, c := range invalid() {
		for _, client := range []int{-1, 0, 3, 4, 15, 16} {
			for _, seq := range []uint32{0, 8, 9, 10, 21, 22, math.MaxUint32} {
				refused(t, s, m, api.Order{Client: client, Seq: seq, C: c}, api.Result{Err: errArg})
			}
		}
	}
}

// P21.1: the clients are 0 to 15, and any other is ErrArg.
func TestP211Clients(t *testing.T) {
	for _, c := range []api.Cmd{onKey(api.CSet, "z", "", 0), onKey(api.CDel, "none", "", 0), txn()} {
		for _, client := range ints() {
			s, m := sample(t, 9)
			for seq := range uint32(12) {
				o := api.Order{Client: client, Seq: seq, C: c}
				if client < 0 || client > 15 {
					refused(t, s, m, o, api.Result{Err: errArg})
				} else {
					apply(t, s, m, o)
				}
			}
		}
	}
}

// P21.1: an order is done at the index that is one greater than the state's, and its result has nothing but that.
func TestP211Index(t *testing.T) {
	s, m := both(t, 9)
	for n := range uint64(300) {
		o := api.Order{Client: int(n % 16), Seq: uint32(n), C: onKey(api.CSet, "a", "", 0)}
		if r, again := apply(t, s, m, o); r != (api.Result{Index: n + 1}) || again {
			t.Fatalf("order %d = %+v, %t", n, r, again)
		}
	}
	for _, index := range []uint64{254, 255, 256, 65535, 1<<32 - 2, 1<<32 - 1, 1 << 32, 1<<63 - 1, 1 << 63, greatest - 2, greatest - 1} {
		s, err := state.Load(9, api.Dump{Index: index})
		if err != api.OK {
			t.Fatalf("Load: error %d", err)
		}
		m := &told{9, api.Dump{Index: index}}
		if r, again := apply(t, s, m, api.Order{C: onKey(api.CSet, "a", "", 0)}); r != (api.Result{Index: index + 1}) || again {
			t.Fatalf("behind index %d: %+v, %t", index, r, again)
		}
	}
}

// P21.1: of each two numbers of a client the same one is repeated, a lower one is stale, and a greater one is done; the first one is done, whatever it is.
func TestP211Numbers(t *testing.T) {
	set := onKey(api.CSet, "a", "", 0)
	for _, first := range seqs() {
		s, m := both(t, 9)
		if r, again := apply(t, s, m, api.Order{Client: 5, Seq: first, C: set}); r != (api.Result{Index: 1}) || again {
			t.Fatalf("order %d = %+v, %t", first, r, again)
		}
		for _, second := range seqs() {
			s, m := s.Copy(), m.copy()
			want := api.Result{Index: 2}
			if second == first {
				want = api.Result{Index: 1}
			} else if second < first {
				want = api.Result{Err: errStale}
			}
			if r, again := apply(t, s, m, api.Order{Client: 5, Seq: second, C: set}); r != want || again != (second == first) {
				t.Fatalf("order %d behind %d = %+v, %t, want %+v", second, first, r, again, want)
			}
		}
	}
}

// P21.1: an order is repeated by its number alone: the command may be any, also one that would fail; a stale one is stale whatever its command.
func TestP211Repeated(t *testing.T) {
	s, m := sample(t, 9)
	l := []api.Cmd{onKey(api.CDel, "none", "", 0), txn(onKey(api.CDel, "none", "", 0)), onKey(api.CSet, "A", "", 0), onNode(api.COpen, 1, "")}
	for kind := 1; kind <= kinds; kind++ {
		l = append(l, variants(kind)[0])
	}
	for range 3 {
		for _, c := range l {
			for _, x := range []struct {
				client int
				seq    uint32
				index  uint64
			}{{0, 21, 22}, {15, 9, 23}, {3, 0, 24}} {
				o := api.Order{Client: x.client, Seq: x.seq, C: c}
				if r, again := apply(t, s, m, o); r != (api.Result{Index: x.index}) || !again {
					t.Fatalf("Apply(%+v) = %+v, %t, want index %d", o, r, again, x.index)
				}
				for _, less := range []uint32{1, 2, 9} {
					if o.Seq = x.seq - less; o.Seq < x.seq {
						refused(t, s, m, o, api.Result{Err: errStale})
					}
				}
			}
		}
	}
}

// P21.1: each client has its own numbers.
func TestP211Own(t *testing.T) {
	set := onKey(api.CSet, "a", "", 0)
	s, m := both(t, 9)
	for seq := range uint32(4) {
		for client := 15; client >= 0; client-- {
			want := api.Result{Index: uint64(seq)*16 + 16 - uint64(client)}
			if r, again := apply(t, s, m, api.Order{Client: client, Seq: 10*seq + uint32(client), C: set}); r != want || again {
				t.Fatalf("order %d of client %d = %+v, %t", seq, client, r, again)
			}
		}
	}
	for client := range 16 {
		want := api.Result{Index: 3*16 + 16 - uint64(client)}
		if r, again := apply(t, s, m, api.Order{Client: client, Seq: 30 + uint32(client), C: set}); r != want || !again {
			t.Fatalf("the last order of client %d = %+v, %t", client, r, again)
		}
	}
}

// P21.1: an order that is refused is not the last one of its client: its number, and lower ones, can be given again.
func TestP211Refused(t *testing.T) {
	for _, bad := range []api.Cmd{onKey(api.CDel, "none", "", 0), txn(onKey(api.CSet, "a", "", 0), onKey(api.CDel, "none", "", 0))} {
		s, m := both(t, 9)
		want := api.Result{Err: errNone, At: len(bad.Subs) / 2}
		for _, seq := range []uint32{math.MaxUint32, 9, 9, 0, 3} {
			refused(t, s, m, api.Order{Client: 2, Seq: seq, C: bad}, want)
		}
		for n, seq := range []uint32{0, 2, 5} {
			refused(t, s, m, api.Order{Client: 2, Seq: seq + 9, C: bad}, want)
			refused(t, s, m, api.Order{Client: 2, Seq: seq, C: bad}, want)
			if r, again := apply(t, s, m, api.Order{Client: 2, Seq: seq, C: onKey(api.CSet, "a", "", 0)}); r != (api.Result{Index: uint64(n) + 1}) || again {
				t.Fatalf("order %d = %+v, %t", seq, r, again)
			}
		}
	}
}

// parts is copies of a state's parts.
type parts struct {
	r *roster.Roster
	i *intent.Intents
	k *kv.Kv
	s *session.Sessions
}

// of is copies of a state's parts.
func of(s *state.State) parts {
	return parts{s.Roster(), s.Intents(), s.Kv(), s.Sessions()}
}

// same asks whether parts have the same rows and last indexes as others.
func (p parts) same(q parts) bool {
	return slices.Equal(p.r.Nodes(), q.r.Nodes()) && slices.EqualFunc(p.r.Services(), q.r.Services(), sameService) && slices.Equal(p.r.Checks(), q.r.Checks()) &&
		slices.Equal(p.i.List(), q.i.List()) && slices.Equal(p.k.List(""), q.k.List("")) && slices.Equal(p.s.List(), q.s.List()) &&
		p.r.Last() == q.r.Last() && p.i.Last() == q.i.Last() && p.k.Last() == q.k.Last() && p.s.Last() == q.s.Last()
}

// do calls the functions that P21.2 names for a command, at an index.
func (p parts) do(c api.Cmd, index uint64) api.Errno {
	switch c.Kind {
	case api.CNode:
		return p.r.Node(c.Node, c.Note, index)
	case api.CService:
		return p.r.Service(api.Service{Node: c.Node, Id: c.Id, Name: c.Name, Tags: c.Tags, Port: c.Port}, index)
	case api.CDropService:
		return p.r.DropService(c.Node, c.Id, index)
	case api.CCheck:
		return p.r.Check(api.Check{Node: c.Node, Id: c.Id, Service: c.Service, Note: c.Note, Status: c.Status}, index)
	case api.CDropCheck:
		return p.r.DropCheck(c.Node, c.Id, index)
	case api.CIntend:
		return p.i.Add(c.Src, c.Dst, c.Allow, index)
	case api.CTurn:
		return p.i.Turn(c.Src, c.Dst, c.Allow, c.Old, index)
	case api.CDropIntent:
		return p.i.Drop(c.Src, c.Dst, c.Old, index)
	case api.CSet:
		return p.k.Set(c.Key, c.Value, index)
	case api.CCas:
		return p.k.Cas(c.Key, c.Value, c.Old, index)
	case api.CDel:
		return p.k.Del(c.Key, index)
	case api.CDelCas:
		return p.k.DelCas(c.Key, c.Old, index)
	}
	return p.sessions(c, index)
}

// sessions calls the functions that P21.2 names for a command of sessions, at an index.
func (p parts) sessions(c api.Cmd, index uint64) api.Errno {
	err := api.OK
	switch c.Kind {
	case api.CDropNode:
		if err = p.r.DropNode(c.Node, index); err == api.OK {
			for _, id := range p.s.CloseNode(c.Node, index) {
				p.k.Free(id, index)
			}
		}
	case api.CLock:
		if _, is := p.s.Get(c.Session); c.Session != 0 && !is {
			return errNone
		}
		err = p.k.Lock(c.Key, c.Value, c.Session, index)
	case api.CUnlock:
		err = p.k.Unlock(c.Key, c.Value, c.Session, index)
	case api.COpen:
		if !slices.ContainsFunc(p.r.Nodes(), func(n api.Node) bool { return n.Node == c.Node }) {
			return errNone
		}
		_, err = p.s.Open(c.Node, index)
	case api.CClose:
		if err = p.s.Close(c.Session, index); err == api.OK {
			p.k.Free(c.Session, index)
		}
	}
	return err
}

// P21.2: each kind of command, with each value of each of its fields beside each of the others, with room and without, does what the layers' functions do.
func TestP212Kinds(t *testing.T) {
	for _, most := range []int{6, 7} {
		s, m := sample(t, most)
		for kind := 1; kind <= kinds; kind++ {
			seen := map[api.Errno]int{}
			for _, c := range variants(kind) {
				s, m := s.Copy(), m.copy()
				p := of(s)
				err := p.do(c, 25)
				does(t, s, m, c, err)
				if !p.same(of(s)) {
					t.Fatalf("behind %+v: %+v", c, s.Dump())
				}
				seen[err]++
			}
			if len(seen) < 2 || seen[api.OK] == 0 {
				t.Fatalf("kind %d has come to %v alone", kind, seen)
			}
		}
		agree(t, s, m)
	}
}

// P21.2: with a node go its services, its checks and its sessions, and the entries that those hold are free; what others have stays.
func TestP212DropNode(t *testing.T) {
	s, m := sample(t, 9)
	ok(t, s, m, onNode(api.CDropNode, 1, ""))
	index := s.Index()
	d := s.Dump()
	if len(d.Nodes) != 2 || len(d.Services) != 1 || len(d.Checks) != 1 || len(d.Sessions) != 2 || d.Sessions[0].Id != 15 || d.Sessions[1].Id != 17 {
		t.Fatalf("%+v", d)
	}
	if d.Last != [6]uint64{index, index, index, 12, index, index} {
		t.Fatalf("the last indexes are %d", d.Last)
	}
	for _, e := range d.Entries {
		if freed := e.Key != "k/2"; freed && (e.Session != 0 || e.Index != index) || !freed && (e.Session != 15 || e.Index != 19) {
			t.Fatalf("%+v", e)
		}
		if e.Locks != 1 {
			t.Fatalf("%+v", e)
		}
	}
	does(t, s, m, onNode(api.CDropNode, 1, ""), errNone)
	// Node 0 has nothing: of the tables only that of the nodes gets an index.
	ok(t, s, m, onNode(api.CDropNode, 0, ""))
	if d := s.Dump(); d.Last != [6]uint64{index + 1, index, index, 12, index, index} {
		t.Fatalf("the last indexes are %d", d.Last)
	}
	ok(t, s, m, onNode(api.CDropNode, 7, ""))
	if d := s.Dump(); len(d.Nodes)+len(d.Services)+len(d.Checks)+len(d.Sessions) > 0 || d.Last != [6]uint64{index + 2, index + 2, index + 2, 12, index + 2, index + 2} {
		t.Fatalf("%+v", d)
	}
	// The same node can come again, with nothing that it had.
	ok(t, s, m, api.Cmd{Kind: api.CNode, Node: 1, Note: "y"}, onNode(api.COpen, 1, ""))
}

// P21.2: a lock of a session that is not there is ErrNone ahead of all else; session 0 is told of by the entries, behind the key and the value.
func TestP212Lock(t *testing.T) {
	s, m := sample(t, 5)
	for _, key := range []string{"A", "", sized(33), "a", "k/1", "k/2", "new"} {
		for _, value := range []string{"", sized(64), sized(65), sized(80)} {
			for _, id := range []uint64{1, 13, 18, 25, 1 << 63, greatest} {
				does(t, s, m, api.Cmd{Kind: api.CLock, Key: key, Value: value, Session: id}, errNone)
			}
			want := api.Errno(errArg)
			if !isKey(key) {
				want = errName
			} else if len(value) > 64 {
				want = errLong
			}
			does(t, s, m, api.Cmd{Kind: api.CLock, Key: key, Value: value}, want)
		}
	}
	does(t, s, m, locks(api.CLock, "k/1", 14), errHeld)
	does(t, s, m, locks(api.CLock, "new", 14), errFull)
	ok(t, s, m, locks(api.CLock, "k/1", 16))
	// A session that is closed holds nothing, and can take nothing any more.
	ok(t, s, m, shuts(16))
	does(t, s, m, locks(api.CLock, "k/1", 16), errNone)
	does(t, s, m, locks(api.CUnlock, "k/1", 16), errHeld)
	ok(t, s, m, locks(api.CLock, "k/1", 14), locks(api.CUnlock, "k/1", 14), locks(api.CLock, "k/1", 15))
}

// P21.2: an unlock asks for no session that is there: one that holds an entry since the state was loaded can unlock it.
func TestP212Unlock(t *testing.T) {
	d := api.Dump{Index: 9, Entries: []api.Entry{{Key: "a", Session: 5, Locks: 1, Make: 3, Index: 4}}, Last: [6]uint64{4: 4}}
	s, err := state.Load(9, d)
	if err != api.OK {
		t.Fatalf("Load: error %d", err)
	}
	m := &told{9, d}
	agree(t, s, m)
	does(t, s, m, locks(api.CLock, "a", 5), errNone)
	does(t, s, m, shuts(5), errNone)
	does(t, s, m, locks(api.CUnlock, "a", 6), errHeld)
	ok(t, s, m, locks(api.CUnlock, "a", 5))
	does(t, s, m, locks(api.CUnlock, "a", 5), errHeld)
}

// P21.2: a session is opened for each node that there is, and its number is the index; for any other number it is ErrNone, with room and without.
func TestP212Open(t *testing.T) {
	s, m := sample(t, 9)
	for n := range 65536 {
		if n > 300 && n%251 > 0 && n < 65500 {
			continue
		}
		s, m := s.Copy(), m.copy()
		if n != 0 && n != 1 && n != 7 {
			does(t, s, m, onNode(api.COpen, n, ""), errNone)
			continue
		}
		ok(t, s, m, onNode(api.COpen, n, ""))
		if x, is := s.Sessions().Get(s.Index()); x != (api.Session{Id: 25, Node: n, Make: 25, Index: 25}) || !is {
			t.Fatalf("the session is %+v, %t", x, is)
		}
	}
	for range 5 {
		ok(t, s, m, onNode(api.COpen, 0, ""))
	}
	does(t, s, m, onNode(api.COpen, 0, ""), errFull)
	does(t, s, m, onNode(api.COpen, 2, ""), errNone)
	ok(t, s, m, shuts(15), onNode(api.COpen, 0, ""))
}

// P21.2: a session that is closed frees what it holds, and nothing else; one that is not there is ErrNone.
func TestP212Close(t *testing.T) {
	held := map[uint64][]string{14: {"k/0", "k/3"}, 15: {"k/2"}, 16: {"a", "k/1"}, 17: nil}
	for id := range uint64(40) {
		s, m := sample(t, 9)
		keys, is := held[id]
		if !is {
			does(t, s, m, shuts(id), errNone)
			continue
		}
		ok(t, s, m, shuts(id))
		for _, e := range s.Kv().List("") {
			freed := slices.Contains(keys, e.Key)
			if freed != (e.Session == 0) || freed != (e.Index == 25) {
				t.Fatalf("behind the close of %d: %+v", id, e)
			}
		}
		if want := map[bool]uint64{true: 25, false: 22}[len(keys) > 0]; s.Kv().Last() != want || s.Sessions().Last() != 25 {
			t.Fatalf("the last indexes are %d, %d", s.Kv().Last(), s.Sessions().Last())
		}
		does(t, s, m, shuts(id), errNone)
	}
}

// P21.3: a transaction of one command comes to what the command comes to by itself, and one behind another that is done tells its place.
func TestP213One(t *testing.T) {
	s, m := sample(t, 6)
	for kind := 1; kind <= kinds; kind++ {
		for i, c := range variants(kind) {
			if kind == api.CCheck && i%7 > 0 {
				continue
			}
			one, alone := s.Copy(), s.Copy()
			want, _ := alone.Apply(next(m, c))
			if got, again := apply(t, one, m.copy(), next(m, txn(c))); got != want || again {
				t.Fatalf("a transaction of %+v = %+v, %t, want %+v", c, got, again, want)
			}
			if !same(one.Dump(), alone.Dump()) {
				t.Fatalf("behind a transaction of %+v: %+v\nwant %+v", c, one.Dump(), alone.Dump())
			}
			two, mine := s.Copy(), m.copy()
			r, again := apply(t, two, mine, next(m, txn(intends(api.CTurn, "*", "db", true, 0), c)))
			if kind != api.CTurn && kind != api.CDropIntent && r.Err != want.Err || r.Err != api.OK && r.At != 1 || again {
				t.Fatalf("a transaction of two with %+v = %+v, %t, want %+v", c, r, again, want)
			}
		}
	}
}

// P21.3: all commands of a transaction have the same index, and each sees what those ahead of it have done.
func TestP213Index(t *testing.T) {
	s, m := sample(t, 9)
	r, again := apply(t, s, m, next(m, txn(
		api.Cmd{Kind: api.CNode, Node: 2}, laysService(2, "s"), laysCheck(2, "c", "s", api.Passing), intends(api.CIntend, "a", "b", true, 0),
		onKey(api.CSet, "n", "1", 0), onNode(api.COpen, 2, ""), locks(api.CLock, "n", 25), locks(api.CLock, "o", 25),
	)))
	if r != (api.Result{Index: 25}) || again {
		t.Fatalf("%+v, %t", r, again)
	}
	d := s.Dump()
	if d.Index != 25 || d.Last != [6]uint64{25, 25, 25, 25, 25, 25} {
		t.Fatalf("%+v", d)
	}
	if n, is := s.Kv().Get("n"); !is || n != (api.Entry{Key: "n", Value: "v", Session: 25, Locks: 1, Make: 25, Index: 25}) {
		t.Fatalf("%+v, %t", n, is)
	}
	// What a command has turned has the transaction's index for the next one.
	ok(t, s, m, txn(onKey(api.CCas, "n", "2", 25), onKey(api.CCas, "n", "3", 26), onKey(api.CDelCas, "n", "", 26), onKey(api.CCas, "n", "4", 0), intends(api.CTurn, "a", "b", false, 25), intends(api.CDropIntent, "a", "b", false, 26)))
	r, _ = apply(t, s, m, next(m, txn(onKey(api.CSet, "n", "5", 0), onKey(api.CCas, "n", "6", 26))))
	if r != (api.Result{Err: errCas, At: 1}) {
		t.Fatalf("%+v", r)
	}
}

// wrong is a command that fails behind the sample, with its error.
type wrong struct {
	c   api.Cmd
	err api.Errno
}

// wrongs is commands that fail behind the sample, of each kind and with each error.
func wrongs() []wrong {
	return []wrong{
		{onNode(api.CNode, 8, ""), errArg}, {api.Cmd{Kind: api.CNode, Note: sized(33)}, errLong}, {onNode(api.CDropNode, 3, ""), errNone},
		{laysService(3, "s"), errNone}, {laysService(8, "s"), errArg}, {laysService(1, "S"), errName}, {onNode(api.CDropService, 1, "none"), errNone},
		{laysCheck(1, "c", "none", 0), errNone}, {laysCheck(1, "c", "", 4), errArg}, {laysCheck(1, "c", "*", 0), errName}, {onNode(api.CDropCheck, 1, "none"), errNone},
		{intends(api.CIntend, "web", "db", true, 0), errTwice}, {intends(api.CIntend, "web", "D", true, 0), errName},
		{intends(api.CTurn, "x", "y", true, 0), errNone}, {intends(api.CTurn, "web", "db", true, 9), errCas}, {intends(api.CDropIntent, "x", "y", false, 0), errNone}, {intends(api.CDropIntent, "web", "db", false, 9), errCas},
		{onKey(api.CSet, "A", "", 0), errName}, {onKey(api.CSet, "a", sized(65), 0), errLong}, {onKey(api.CCas, "a", "", 0), errCas}, {onKey(api.CDel, "none", "", 0), errNone}, {onKey(api.CDelCas, "a", "", 1), errCas},
		{locks(api.CLock, "a", 99), errNone}, {locks(api.CLock, "a", 0), errArg}, {locks(api.CLock, "a", 14), errHeld}, {locks(api.CUnlock, "a", 14), errHeld}, {locks(api.CUnlock, "none", 14), errNone},
		{onNode(api.COpen, 3, ""), errNone}, {shuts(99), errNone},
	}
}

// goods is seven commands that are done behind the sample, of each table.
func goods() []api.Cmd {
	return []api.Cmd{
		{Kind: api.CNode, Node: 1, Note: "z"}, onNode(api.CDropNode, 7, ""), intends(api.CTurn, "*", "db", true, 0), onKey(api.CSet, "k/9", "", 0),
		laysCheck(1, "d", "web-2", api.Passing), laysService(0, "s"), onNode(api.COpen, 0, ""),
	}
}

// P21.3: a command that fails, at each place of a transaction, tells its error and its place, and undoes what was done ahead of it.
func TestP213Refused(t *testing.T) {
	s, m := sample(t, 9)
	for _, x := range wrongs() {
		does(t, s, m, x.c, x.err)
		for place := range 8 {
			l := slices.Insert(goods(), place, x.c)
			refused(t, s, m, next(m, txn(l...)), api.Result{Err: x.err, At: place})
			refused(t, s, m, next(m, txn(l[:place+1]...)), api.Result{Err: x.err, At: place})
			refused(t, s, m, api.Order{Client: 9, Seq: 4, C: txn(l...)}, api.Result{Err: x.err, At: place})
		}
	}
	ok(t, s, m, txn(goods()...))
}

// P21.3: of two commands that fail the first one counts.
func TestP213First(t *testing.T) {
	s, m := sample(t, 9)
	for _, x := range wrongs() {
		for _, y := range wrongs() {
			for place := range 4 {
				l := append(goods()[:place:place], x.c, goods()[place], y.c, x.c)
				refused(t, s, m, next(m, txn(l...)), api.Result{Err: x.err, At: place})
			}
		}
	}
}

// P21.3: a table that is full refuses a row of a transaction, and what is taken away in it makes room.
func TestP213Full(t *testing.T) {
	s, m := sample(t, 6)
	ok(t, s, m, onKey(api.CSet, "k/8", "", 0))
	refused(t, s, m, next(m, txn(onKey(api.CDel, "a", "", 0), onKey(api.CSet, "m", "", 0), onKey(api.CSet, "n", "", 0))), api.Result{Err: errFull, At: 2})
	ok(t, s, m, txn(onKey(api.CDel, "a", "", 0), onKey(api.CSet, "m", "", 0)))
}

// P21.3: a transaction without commands is done: it changes the index and the client's last order alone.
func TestP213Empty(t *testing.T) {
	for _, c := range []api.Cmd{{Kind: api.CTxn}, {Kind: api.CTxn, Subs: []api.Cmd{}}} {
		s, m := sample(t, 9)
		before := s.Dump()
		if r, again := apply(t, s, m, api.Order{Client: 8, Seq: 7, C: c}); r != (api.Result{Index: 25}) || again {
			t.Fatalf("%+v, %t", r, again)
		}
		before.Index, before.Seen = 25, slices.Insert(before.Seen, 2, api.Seen{Client: 8, Seq: 7, Index: 25})
		if after := s.Dump(); !same(after, before) {
			t.Fatalf("%+v, want %+v", after, before)
		}
	}
}

// P21.3: a transaction opens one session at the most, unless it closes the one that it has opened, or lets its node go.
func TestP213Sessions(t *testing.T) {
	s, m := sample(t, 9)
	for _, n := range []int{0, 1, 7} {
		for _, o := range []int{0, 1, 7, 2, 8} {
			want := api.Errno(errTwice)
			if o == 2 || o == 8 {
				want = errNone
			}
			refused(t, s, m, next(m, txn(onNode(api.COpen, n, ""), onNode(api.COpen, o, ""))), api.Result{Err: want, At: 1})
			refused(t, s, m, next(m, txn(onNode(api.COpen, n, ""), shuts(24), onNode(api.COpen, o, ""))), api.Result{Err: errNone, At: 1})
			refused(t, s, m, next(m, txn(onNode(api.COpen, n, ""), shuts(14), onNode(api.COpen, o, ""))), api.Result{Err: want, At: 2})
		}
	}
	ok(t, s, m, txn(onNode(api.COpen, 0, ""), locks(api.CLock, "n", 25), shuts(25), onNode(api.COpen, 7, "")))
	if e, _ := s.Kv().Get("n"); e != (api.Entry{Key: "n", Value: "v", Locks: 1, Make: 25, Index: 25}) {
		t.Fatalf("%+v", e)
	}
	if x, is := s.Sessions().Get(25); x.Node != 7 || !is {
		t.Fatalf("%+v, %t", x, is)
	}
	ok(t, s, m, txn(onNode(api.COpen, 0, ""), onNode(api.CDropNode, 0, ""), onNode(api.COpen, 1, ""), shuts(26), onNode(api.COpen, 1, "")))
	// Where there is no room, a session that is there already is told of first.
	for range 3 {
		ok(t, s, m, onNode(api.COpen, 1, ""))
	}
	does(t, s, m, onNode(api.COpen, 1, ""), errFull)
	ok(t, s, m, shuts(14))
	refused(t, s, m, next(m, txn(onNode(api.COpen, 1, ""), onNode(api.COpen, 1, ""))), api.Result{Err: errTwice, At: 1})
}
