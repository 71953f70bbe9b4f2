package state_test

import (
	"slices"
	"testing"

	"sodality/api"
	"sodality/state"
)

// The chapter's examples.
func TestExamples(t *testing.T) {
	s, m := both(t, 8)
	for _, x := range []struct {
		o     api.Order
		want  api.Result
		again bool
	}{
		{api.Order{Client: 1, Seq: 1, C: api.Cmd{Kind: api.CNode, Node: 2}}, api.Result{Index: 1}, false},
		{api.Order{Client: 1, Seq: 1, C: api.Cmd{Kind: api.CNode, Node: 2}}, api.Result{Index: 1}, true},
		{api.Order{Client: 1, Seq: 2, C: api.Cmd{Kind: api.COpen, Node: 2}}, api.Result{Index: 2}, false},
		{api.Order{Client: 1, Seq: 3, C: api.Cmd{Kind: api.CLock, Key: "a", Value: "x", Session: 2}}, api.Result{Index: 3}, false},
		{api.Order{Seq: 1, C: txn(onKey(api.CSet, "b", "", 0), onKey(api.CDel, "c", "", 0))}, api.Result{Err: errNone, At: 1}, false},
		{api.Order{Seq: 1, C: api.Cmd{Kind: api.CClose, Session: 2}}, api.Result{Index: 4}, false},
		{api.Order{Client: 1, Seq: 2, C: api.Cmd{Kind: api.COpen, Node: 2}}, api.Result{Err: errStale}, false},
	} {
		if r, again := apply(t, s, m, x.o); r != x.want || again != x.again {
			t.Fatalf("Apply(%+v) = %+v, %t, want %+v, %t", x.o, r, again, x.want, x.again)
		}
	}
	if e, is := s.Kv().Get("a"); e != (api.Entry{Key: "a", Value: "x", Locks: 1, Make: 3, Index: 4}) || !is {
		t.Fatalf("a is %+v, %t", e, is)
	}
	want := api.Dump{
		Index:   4,
		Nodes:   []api.Node{{Node: 2, Make: 1, Index: 1}},
		Entries: []api.Entry{{Key: "a", Value: "x", Locks: 1, Make: 3, Index: 4}},
		Last:    [6]uint64{1, 0, 0, 0, 4, 4},
		Seen:    []api.Seen{{Client: 0, Seq: 1, Index: 4}, {Client: 1, Seq: 3, Index: 3}},
	}
	if d := s.Dump(); !same(d, want) {
		t.Fatalf("Dump = %+v, want %+v", d, want)
	}
}

// P21.4: an empty state has nothing, whatever its capacity, and each of its tables has that capacity.
func TestP214New(t *testing.T) {
	for _, most := range ints() {
		room := clamped(most)
		s, m := both(t, most)
		ok(t, s, m, api.Cmd{Kind: api.CNode, Node: 7})
		for n := range min(room-1, 7) {
			ok(t, s, m, api.Cmd{Kind: api.CNode, Node: n})
		}
		if room < 8 {
			does(t, s, m, api.Cmd{Kind: api.CNode, Node: 6}, errFull)
		}
		var l []api.Cmd
		for i := range room {
			id := "n" + string(rune('a'+i/10)) + string(rune('0'+i%10))
			l = append(l, laysService(7, id), laysCheck(7, id, "", 0), intends(api.CIntend, "*", id, true, 0), onKey(api.CSet, id, "", 0))
		}
		for batch := range slices.Chunk(l, 8) {
			ok(t, s, m, txn(batch...))
		}
		for range room {
			ok(t, s, m, onNode(api.COpen, 7, ""))
		}
		for _, c := range []api.Cmd{laysService(7, "x"), laysCheck(7, "x", "", 0), intends(api.CIntend, "*", "x", true, 0), onKey(api.CSet, "x", "", 0), onNode(api.COpen, 7, "")} {
			does(t, s, m, c, errFull)
			refused(t, s, m, next(m, txn(c)), api.Result{Err: errFull})
		}
	}
}

// P21.4: Dump has the rows as the layers tell them, each table's last index at its place, and the last orders by their clients.
func TestP214Dump(t *testing.T) {
	c := chance(1)
	for range 30 {
		s, m := both(t, 3+c.below(9))
		for range 60 {
			apply(t, s, m, c.order(m))
			d, p := s.Dump(), of(s)
			last := p.r.Last()
			want := api.Dump{
				Index: s.Index(), Nodes: p.r.Nodes(), Services: p.r.Services(), Checks: p.r.Checks(), Intentions: p.i.List(), Entries: p.k.List(""), Sessions: p.s.List(),
				Last: [6]uint64{last[0], last[1], last[2], p.i.Last(), p.k.Last(), p.s.Last()}, Seen: m.d.Seen,
			}
			if !same(d, want) {
				t.Fatalf("Dump = %+v\nwant   %+v", d, want)
			}
		}
	}
}

// P21.4: the last indexes are those of nodes, services, checks, intentions, entries and sessions, in this order.
func TestP214Last(t *testing.T) {
	s, m := both(t, 9)
	ok(t, s, m, onNode(api.CNode, 1, ""), laysService(1, "s"), laysCheck(1, "c", "", 0), intends(api.CIntend, "a", "b", true, 0), onKey(api.CSet, "a", "", 0), onNode(api.COpen, 1, ""))
	if last := s.Dump().Last; last != [6]uint64{1, 2, 3, 4, 5, 6} {
		t.Fatalf("the last indexes are %d", last)
	}
	ok(t, s, m, shuts(6), onKey(api.CDel, "a", "", 0), intends(api.CDropIntent, "a", "b", false, 0), onNode(api.CDropCheck, 1, "c"), onNode(api.CDropService, 1, "s"), onNode(api.CDropNode, 1, ""))
	if last := s.Dump().Last; last != [6]uint64{12, 11, 10, 9, 8, 7} {
		t.Fatalf("the last indexes are %d", last)
	}
}

// P21.4: the last orders are told by rising clients, in whatever order the clients have come.
func TestP214Seen(t *testing.T) {
	c := chance(2)
	for range 50 {
		s, m := both(t, 9)
		for range 1 + c.below(40) {
			o := api.Order{Client: c.below(16), Seq: uint32(c.below(9)), C: txn()}
			apply(t, s, m, o)
		}
		seen := s.Dump().Seen
		for i, x := range seen {
			if i > 0 && seen[i-1].Client >= x.Client || x.Index == 0 || x.Index > s.Index() {
				t.Fatalf("%+v", seen)
			}
		}
	}
}

// spoil turns copies of a state's parts, as far as they can be turned.
func spoil(t *testing.T, p parts) {
	t.Helper()
	for _, c := range []api.Cmd{
		{Kind: api.CNode, Node: 3, Note: "spoilt"}, {Kind: api.CNode, Node: 0, Note: "spoilt"}, laysService(0, "spoilt"), laysCheck(0, "spoilt", "", 0), onNode(api.CDropService, 1, "web-1"), onNode(api.CDropNode, 7, ""),
		intends(api.CIntend, "spoilt", "spoilt", true, 0), intends(api.CTurn, "web", "db", false, 0), intends(api.CDropIntent, "*", "db", false, 0),
		onKey(api.CSet, "spoilt", "", 0), onKey(api.CSet, "a", "spoilt", 0), onKey(api.CDel, "k/1", "", 0), onNode(api.COpen, 0, ""), shuts(14),
	} {
		if err := p.do(c, 99); err != api.OK {
			t.Fatalf("%+v = %d at a copy", c, err)
		}
	}
}

// P21.4: Kv, Intents, Roster and Sessions hand out copies: what is done to them does not reach the state, nor what is done to the state them.
func TestP214Parts(t *testing.T) {
	s, m := sample(t, 9)
	other, n := s.Copy(), m.copy()
	before, kept := of(s), of(s)
	if before.r == kept.r || before.i == kept.i || before.k == kept.k || before.s == kept.s {
		t.Fatal("two copies are one")
	}
	for range 2 {
		spoil(t, of(s))
		agree(t, s, m)
		agree(t, other, n)
		if !before.same(kept) {
			t.Fatal("a copy was changed by way of another")
		}
	}
	for i, c := range goods() {
		ok(t, s, m, c)
		if !before.same(kept) || !before.same(of(other)) {
			t.Fatalf("behind %d orders a copy is changed", i+1)
		}
	}
	spoil(t, before)
	agree(t, s, m)
	agree(t, other, n)
	if before.same(kept) || !kept.same(of(other)) {
		t.Fatal("a copy was changed by way of another, or not at all")
	}
}

// P21.4: a copy is equal, also in the clients' last orders, and goes on by itself, as does the state.
func TestP214Copy(t *testing.T) {
	c := chance(3)
	for range 40 {
		s, m := both(t, 2+c.below(9))
		for range c.below(60) {
			apply(t, s, m, c.order(m))
		}
		other, n := s.Copy(), m.copy()
		if other == s {
			t.Fatal("Copy hands out the state itself")
		}
		agree(t, other, n)
		for range 40 {
			apply(t, s, m, c.order(m))
			agree(t, other, n)
			apply(t, other, n, c.order(n))
			agree(t, s, m)
		}
		third, o := other.Copy().Copy(), n.copy()
		for range 9 {
			apply(t, other, n, c.order(n))
			agree(t, third, o)
		}
	}
}

// P21.6: an order that is done raises the index by one, and any other changes nothing in the Dump.
func TestP216Index(t *testing.T) {
	c := chance(4)
	done := 0
	for range 60 {
		s, m := both(t, 1+c.below(9))
		for range 80 {
			before, o := s.Dump(), c.order(m)
			r, again := s.Apply(o)
			after := s.Dump()
			m.apply(o)
			if again || r.Err != api.OK {
				if !same(before, after) || r.Err != api.OK && (r.Index != 0 || again) || r.At != 0 && o.C.Kind != api.CTxn {
					t.Fatalf("Apply(%+v) = %+v, %t, and turned %+v into %+v", o, r, again, before, after)
				}
				continue
			}
			done++
			if r != (api.Result{Index: before.Index + 1}) || after.Index != before.Index+1 {
				t.Fatalf("Apply(%+v) = %+v behind index %d, and then it is %d", o, r, before.Index, after.Index)
			}
		}
	}
	if done < 1000 {
		t.Fatalf("only %d orders were done", done)
	}
}

// P21.6: an order is done once, however often it is repeated, and whatever others do meanwhile.
func TestP216Once(t *testing.T) {
	s, m := sample(t, 64)
	c := chance(5)
	for seq := range uint32(60) {
		o := api.Order{Client: 7, Seq: seq, C: c.small(m)}
		first, again := apply(t, s, m, o)
		if first.Err != api.OK || again {
			continue
		}
		for range 20 {
			other := c.order(m)
			if other.Client == 7 {
				continue
			}
			apply(t, s, m, other)
			before := s.Dump()
			if r, again := s.Apply(o); r != first || !again || !same(s.Dump(), before) {
				t.Fatalf("Apply(%+v) = %+v, %t, want %+v, and turned %+v into %+v", o, r, again, first, before, s.Dump())
			}
		}
	}
}

// P21.6: through any orders a session that holds an entry is there, and its node is.
func TestP216Holders(t *testing.T) {
	c := chance(6)
	held := 0
	for range 60 {
		s, m := both(t, 3+c.below(9))
		for range 80 {
			apply(t, s, m, c.order(m))
			d := s.Dump()
			for _, e := range d.Entries {
				if e.Session != 0 {
					held++
				}
				if e.Session != 0 && !slices.ContainsFunc(d.Sessions, func(x api.Session) bool { return x.Id == e.Session }) {
					t.Fatalf("%+v is held by none of %+v", e, d.Sessions)
				}
			}
			for _, x := range d.Sessions {
				if !slices.ContainsFunc(d.Nodes, func(n api.Node) bool { return n.Node == x.Node }) {
					t.Fatalf("%+v is of none of %+v", x, d.Nodes)
				}
			}
		}
	}
	if held < 500 {
		t.Fatalf("only %d entries were held", held)
	}
}

// P21.1 to P21.4: through any orders a state does as the chapters' words have it.
func TestAny(t *testing.T) {
	c := chance(7)
	seen, done := map[api.Errno]int{}, map[int]int{}
	for range 500 {
		s, m := both(t, c.below(14)-1)
		for _, o := range rows()[:c.below(18)] {
			apply(t, s, m, next(m, o))
		}
		for range 100 {
			o := c.order(m)
			r, again := apply(t, s, m, o)
			seen[r.Err]++
			if r.Err == api.OK && !again {
				done[o.C.Kind]++
			}
		}
	}
	for kind := 1; kind <= kinds+1; kind++ {
		if done[kind] < 20 {
			t.Fatalf("kind %d was done %d times alone: %v", kind, done[kind], done)
		}
	}
	for _, err := range []api.Errno{api.OK, errArg, errLong, errNone, errFull, errName, errTwice, errCas, errHeld, errStale} {
		if seen[err] < 20 {
			t.Fatalf("error %d has come %d times alone", err, seen[err])
		}
	}
}

// blot overwrites all that a dump has, as far as its memory goes.
func blot(d api.Dump) {
	all := d.Services[:cap(d.Services)]
	for i := range all {
		for k := range all[i].Tags[:cap(all[i].Tags)] {
			all[i].Tags[:cap(all[i].Tags)][k] = "blot"
		}
	}
	clear(all)
	clear(d.Nodes[:cap(d.Nodes)])
	clear(d.Checks[:cap(d.Checks)])
	clear(d.Intentions[:cap(d.Intentions)])
	clear(d.Entries[:cap(d.Entries)])
	clear(d.Sessions[:cap(d.Sessions)])
	clear(d.Seen[:cap(d.Seen)])
}

// R3: a Dump shares no memory with the state, nor with another Dump, and stays as it is, whatever is done later.
func TestResults(t *testing.T) {
	s, m := sample(t, 9)
	other, n := s.Copy(), m.copy()
	kept, want := s.Dump(), m.copy()
	for _, c := range goods() {
		blot(s.Dump())
		blot(other.Dump())
		agree(t, s, m)
		agree(t, other, n)
		ok(t, s, m, c)
		if !same(kept, want.d) {
			t.Fatalf("a Dump was changed: %+v", kept)
		}
	}
	tags := append(kept.Services[0].Tags, "blot")
	clear(tags)
	if !slices.Equal(kept.Services[1].Tags, []string{"a", "b"}) {
		t.Fatalf("the tags of one service were changed by way of another's: %+v", kept.Services)
	}
}

// R3: Apply keeps nothing of its order, and does not write to it, nor behind its ends.
func TestArgument(t *testing.T) {
	spare := []string{"a", "b", "c", "d"}
	one, two := laysService(1, "s"), laysService(1, "t")
	one.Tags, two.Tags = spare[:2], spare[:3]
	l := []api.Cmd{two, onKey(api.CSet, "n", "1", 0), shuts(99), onNode(api.CDropNode, 9, "")}
	for _, c := range []api.Cmd{one, txn(one), txn(l[:2]...), {Kind: api.CTxn, Subs: l[:3]}} {
		s, m := sample(t, 9)
		apply(t, s, m, next(m, c))
		if !slices.Equal(spare, []string{"a", "b", "c", "d"}) || l[0].Id != "t" || len(l[0].Tags) != 3 || l[1].Key != "n" || l[2].Session != 99 || l[3].Node != 9 {
			t.Fatalf("the order was turned to %q, %+v", spare, l)
		}
		spare[0], spare[1] = "y", "z"
		l[1].Key = "y"
		agree(t, s, m)
		spare[0], spare[1] = "a", "b"
		l[1].Key = "n"
	}
}

// R4: two states share nothing, be they made, copied, or loaded from the same dump.
func TestTwo(t *testing.T) {
	c := chance(8)
	one, m := sample(t, 9)
	two, n := both(t, 9)
	three, o := loaded(t, 9, m.d)
	four, p := one.Copy(), m.copy()
	for range 100 {
		apply(t, one, m, c.order(m))
		agree(t, two, n)
		apply(t, two, n, c.order(n))
		agree(t, three, o)
		apply(t, three, o, c.order(o))
		agree(t, four, p)
		apply(t, four, p, c.order(p))
		agree(t, one, m)
	}
}

// R1: no order is the end of a state, also where its index is the greatest.
func TestGreatest(t *testing.T) {
	c := chance(9)
	for kind := 1; kind <= kinds+1; kind++ {
		s, err := state.Load(9, api.Dump{Index: greatest, Nodes: []api.Node{{Node: 1, Make: greatest, Index: greatest}}, Last: [6]uint64{greatest}})
		if err != api.OK {
			t.Fatalf("Load: error %d", err)
		}
		for client := range 16 {
			s.Apply(api.Order{Client: client, C: c.cmd(kind, &told{d: s.Dump()})})
			s.Apply(api.Order{Client: client, Seq: 1, C: onNode(api.COpen, 1, "")})
			s.Copy().Dump()
		}
	}
}
