package state_test

import (
	"math"
	"slices"
	"testing"

	"sodality/api"
	"sodality/state"
)

// loaded is a state that is loaded from a dump, and one by the chapter's words.
func loaded(t *testing.T, most int, d api.Dump) (*state.State, *told) {
	t.Helper()
	before := cloned(d)
	s, err := state.Load(most, d)
	if s == nil || err != api.OK {
		t.Fatalf("Load(%d, %+v): error %d", most, d, err)
	}
	if !same(d, before) {
		t.Fatalf("Load turned %+v to %+v", before, d)
	}
	m := &told{clamped(most), cloned(d)}
	agree(t, s, m)
	return s, m
}

// unloaded fails where a dump that may not be is loaded.
func unloaded(t *testing.T, most int, d api.Dump) {
	t.Helper()
	before := cloned(d)
	if s, err := state.Load(most, d); s != nil || err != errArg {
		t.Fatalf("Load(%d, %+v) = %v, %d, want ErrArg", most, d, s, err)
	}
	if !same(d, before) {
		t.Fatalf("Load turned %+v to %+v", before, d)
	}
}

// may fails where a dump is loaded although it may not be, or the other way round.
func may(t *testing.T, is bool, most int, d api.Dump) {
	t.Helper()
	if is {
		loaded(t, most, d)
	} else {
		unloaded(t, most, d)
	}
}

// dumped is the dump of the sample.
func dumped(t *testing.T) api.Dump {
	t.Helper()
	s, _ := sample(t, 9)
	return s.Dump()
}

// turned is a dump that is turned by a function.
func turned(d api.Dump, turn func(*api.Dump)) api.Dump {
	d = cloned(d)
	turn(&d)
	return d
}

// P21.5: the Dump of any state is loaded, and the state that it makes is equal, also in the clients' last orders, and does the same from then on.
func TestP215Load(t *testing.T) {
	c := chance(11)
	for range 60 {
		most := 1 + c.below(12)
		s, m := both(t, most)
		for range c.below(90) {
			apply(t, s, m, c.order(m))
		}
		other, n := loaded(t, most, s.Dump())
		for range 60 {
			o := c.order(m)
			apply(t, s, m, o)
			apply(t, other, n, o)
		}
		loaded(t, most, other.Dump())
		loaded(t, 64, other.Dump())
	}
}

// P21.5: an empty dump is an empty state, and an index alone may be any.
func TestP215Empty(t *testing.T) {
	for _, most := range ints() {
		s, m := loaded(t, most, api.Dump{})
		ok(t, s, m, api.Cmd{Kind: api.CNode, Node: 1}, onNode(api.COpen, 1, ""))
	}
	for _, index := range []uint64{0, 1, 2, 1 << 32, 1 << 63, greatest - 1, greatest} {
		loaded(t, 9, api.Dump{Index: index})
		loaded(t, 9, api.Dump{Index: index, Last: [6]uint64{index, index, index, index, index, index}})
	}
	none := api.Dump{Nodes: []api.Node{}, Services: []api.Service{}, Checks: []api.Check{}, Intentions: []api.Intention{}, Entries: []api.Entry{}, Sessions: []api.Session{}, Seen: []api.Seen{}}
	loaded(t, 9, none)
}

// P21.5: what any of the four layers does not load is ErrArg: a row of each table that is wrong, at each place.
func TestP215Rows(t *testing.T) {
	d := dumped(t)
	loaded(t, 9, d)
	var wrong []func(*api.Dump)
	for i := range d.Nodes {
		wrong = append(wrong, func(d *api.Dump) { d.Nodes[i].Node = 8 }, func(d *api.Dump) { d.Nodes[i].Node = -1 }, func(d *api.Dump) { d.Nodes[i].Addr = sized(33) })
		wrong = append(wrong, func(d *api.Dump) { d.Nodes[i].Make = d.Nodes[i].Index + 1 }, func(d *api.Dump) { d.Nodes[i].Index = d.Last[nodes] + 1 })
		wrong = append(wrong, func(d *api.Dump) { d.Nodes = slices.Insert(d.Nodes, i, d.Nodes[i]) })
	}
	for i := range d.Services {
		wrong = append(wrong, func(d *api.Dump) { d.Services[i].Node = 2 }, func(d *api.Dump) { d.Services[i].Port = 65536 }, func(d *api.Dump) { d.Services[i].Tags = []string{"b", "a"} })
		wrong = append(wrong, func(d *api.Dump) { d.Services[i].Make = d.Services[i].Index + 1 }, func(d *api.Dump) { d.Services[i].Index = d.Last[services] + 1 })
		wrong = append(wrong, func(d *api.Dump) { d.Services = slices.Insert(d.Services, i, d.Services[i]) })
	}
	for i := range d.Checks {
		wrong = append(wrong, func(d *api.Dump) { d.Checks[i].Node = 2 }, func(d *api.Dump) { d.Checks[i].Service = "none" }, func(d *api.Dump) { d.Checks[i].Status = 4 })
		wrong = append(wrong, func(d *api.Dump) { d.Checks[i].Make = d.Checks[i].Index + 1 }, func(d *api.Dump) { d.Checks[i].Index = d.Last[checks] + 1 })
		wrong = append(wrong, func(d *api.Dump) { d.Checks = slices.Insert(d.Checks, i, d.Checks[i]) })
	}
	for i := range d.Intentions {
		wrong = append(wrong, func(d *api.Dump) { d.Intentions[i].Src = "A" }, func(d *api.Dump) { d.Intentions[i].Dst = "" })
		wrong = append(wrong, func(d *api.Dump) { d.Intentions[i].Make = d.Intentions[i].Index + 1 }, func(d *api.Dump) { d.Intentions[i].Index = d.Last[intentions] + 1 })
		wrong = append(wrong, func(d *api.Dump) { d.Intentions = slices.Insert(d.Intentions, i, d.Intentions[i]) })
	}
	for i := range d.Entries {
		wrong = append(wrong, func(d *api.Dump) { d.Entries[i].Key = "A" }, func(d *api.Dump) { d.Entries[i].Value = sized(65) })
		wrong = append(wrong, func(d *api.Dump) { d.Entries[i].Make = d.Entries[i].Index + 1 }, func(d *api.Dump) { d.Entries[i].Index = d.Last[entries] + 1 })
		wrong = append(wrong, func(d *api.Dump) { d.Entries = slices.Insert(d.Entries, i, d.Entries[i]) })
	}
	for i := range d.Sessions {
		wrong = append(wrong, func(d *api.Dump) { d.Sessions[i].Node = 8 }, func(d *api.Dump) { d.Sessions[i].Id++ }, func(d *api.Dump) { d.Sessions[i].Make-- })
		wrong = append(wrong, func(d *api.Dump) { d.Sessions[i].Index++ }, func(d *api.Dump) { d.Sessions[i] = api.Session{} })
		wrong = append(wrong, func(d *api.Dump) { d.Sessions = slices.Insert(d.Sessions, i, d.Sessions[i]) })
	}
	for _, turn := range wrong {
		unloaded(t, 9, turned(d, turn))
	}
	// Behind each wrong one the state is loaded as before.
	loaded(t, 9, d)
}

// P21.5: the last index of each table is one that the rows are within, and that does not exceed the index.
func TestP215Last(t *testing.T) {
	d := dumped(t)
	for table := range 6 {
		for _, last := range []uint64{0, 1, d.Last[table] - 1, d.Last[table], d.Last[table] + 1, d.Index - 1, d.Index, d.Index + 1, d.Index + 2, 1 << 32, greatest} {
			may(t, last >= d.Last[table] && last <= d.Index, 9, turned(d, func(d *api.Dump) { d.Last[table] = last }))
		}
		// Of a table without rows, too.
		for _, last := range []uint64{0, 1, 8, 9, 10, 11, 1 << 63, greatest} {
			x := api.Dump{Index: 9}
			x.Last[table] = last
			may(t, last <= 9, 9, x)
		}
	}
	// The greatest of them is at index 22, and the last order at 24.
	for index := range uint64(30) {
		may(t, index >= 24, 9, turned(d, func(d *api.Dump) { d.Index = index }))
		may(t, index >= 22, 9, turned(d, func(d *api.Dump) { d.Index, d.Seen = index, nil }))
	}
}

// P21.5: the clients of the last orders rise, from 0 to 15; each of them once.
func TestP215Clients(t *testing.T) {
	for _, n := range ints() {
		good := n >= 0 && n <= 15
		may(t, good, 9, api.Dump{Index: 9, Seen: []api.Seen{{Client: n, Seq: 3, Index: 9}}})
		for _, o := range ints() {
			may(t, good && o >= 0 && o <= 15 && n < o, 9, api.Dump{Index: 9, Seen: []api.Seen{{Client: n, Index: 9}, {Client: o, Index: 9}}})
		}
	}
	var all []api.Seen
	for n := range 16 {
		all = append(all, api.Seen{Client: n, Seq: uint32(n), Index: uint64(n) + 1})
	}
	d := api.Dump{Index: 16, Seen: all}
	s, m := loaded(t, 9, d)
	for n := range 16 {
		if r, again := apply(t, s, m, api.Order{Client: n, Seq: uint32(n), C: txn()}); r != (api.Result{Index: uint64(n) + 1}) || !again {
			t.Fatalf("client %d: %+v, %t", n, r, again)
		}
	}
	for n := range 16 {
		for o := range n {
			unloaded(t, 9, turned(d, func(d *api.Dump) { d.Seen[n], d.Seen[o] = d.Seen[o], d.Seen[n] }))
			unloaded(t, 9, turned(d, func(d *api.Dump) { d.Seen[n].Client = o }))
		}
		unloaded(t, 9, turned(d, func(d *api.Dump) { d.Seen = slices.Insert(d.Seen, n, d.Seen[n]) }))
		loaded(t, 9, turned(d, func(d *api.Dump) { d.Seen = slices.Delete(d.Seen, n, n+1) }))
	}
	unloaded(t, 9, turned(d, func(d *api.Dump) { d.Seen = append(d.Seen, api.Seen{Client: 16, Index: 1}) }))
}

// P21.5: the index of a last order is not 0, and does not exceed the state's, at each place; its number may be any.
func TestP215Orders(t *testing.T) {
	seen := []api.Seen{{Client: 0, Index: 1}, {Client: 3, Seq: 9, Index: 5}, {Client: 15, Seq: math.MaxUint32, Index: 9}}
	for place := range seen {
		for _, index := range []uint64{0, 1, 2, 5, 8, 9, 10, 11, 1 << 32, 1<<32 + 1, 1 << 63, greatest} {
			d := turned(api.Dump{Index: 9, Seen: seen}, func(d *api.Dump) { d.Seen[place].Index = index })
			may(t, index >= 1 && index <= 9, 9, d)
		}
		for _, seq := range seqs() {
			d := turned(api.Dump{Index: 9, Seen: seen}, func(d *api.Dump) { d.Seen[place].Seq = seq })
			s, m := loaded(t, 9, d)
			o := api.Order{Client: seen[place].Client, Seq: seq, C: txn()}
			if r, again := apply(t, s, m, o); r != (api.Result{Index: seen[place].Index}) || !again {
				t.Fatalf("Apply(%+v) = %+v, %t", o, r, again)
			}
			o.Seq--
			apply(t, s, m, o)
			o.Seq += 2
			apply(t, s, m, o)
		}
	}
	unloaded(t, 9, api.Dump{Seen: []api.Seen{{Index: 1}}})
	unloaded(t, 9, api.Dump{Seen: []api.Seen{{}}})
}

// P21.5: what the layers tell nothing of is loaded: sessions of nodes that are not there, entries that no session is there to hold, and orders at the index of another.
func TestP215Free(t *testing.T) {
	d := dumped(t)
	for n := range 8 {
		loaded(t, 9, turned(d, func(d *api.Dump) { d.Sessions[0].Node = n }))
	}
	d = turned(d, func(d *api.Dump) {
		d.Sessions = d.Sessions[1:]
		d.Entries[0].Session, d.Entries[1].Session = greatest, 99
		d.Entries[2].Locks, d.Entries[3].Locks = 0, greatest
		d.Seen[0].Index, d.Seen[1].Index = 1, 1
	})
	s, m := loaded(t, 9, d)
	does(t, s, m, locks(api.CLock, "k/0", 14), errNone)
	ok(t, s, m, locks(api.CUnlock, "k/3", 14), locks(api.CLock, "k/3", 15))
	ok(t, s, m, onNode(api.CDropNode, 1, ""))
	loaded(t, 9, s.Dump())
	// A session of a node that is not there goes by its number alone.
	s, m = loaded(t, 9, api.Dump{Index: 9, Sessions: []api.Session{{Id: 3, Node: 4, Make: 3, Index: 3}}, Last: [6]uint64{5: 3}})
	does(t, s, m, onNode(api.CDropNode, 4, ""), errNone)
	does(t, s, m, onNode(api.COpen, 4, ""), errNone)
	ok(t, s, m, locks(api.CLock, "a", 3), shuts(3))
}

// P21.5: as many rows of each table as the capacity allows, for each capacity and those beyond its bounds.
func TestP215Most(t *testing.T) {
	var all api.Dump
	for n := range 8 {
		all.Nodes = append(all.Nodes, api.Node{Node: n, Make: 1, Index: 1})
	}
	for i := range 70 {
		id, n := "n"+string(rune('a'+i/10))+string(rune('0'+i%10)), uint64(i)+1
		all.Services = append(all.Services, api.Service{Id: id, Name: "x", Make: 1, Index: 1})
		all.Checks = append(all.Checks, api.Check{Id: id, Make: 1, Index: 1})
		all.Intentions = append(all.Intentions, api.Intention{Src: "*", Dst: id, Make: 1, Index: 1})
		all.Entries = append(all.Entries, api.Entry{Key: id, Make: 1, Index: 1})
		all.Sessions = append(all.Sessions, api.Session{Id: n, Make: n, Index: n})
	}
	all.Index, all.Last = 70, [6]uint64{70, 70, 70, 70, 70, 70}
	for _, most := range ints() {
		room := clamped(most)
		full := turned(all, func(d *api.Dump) {
			d.Nodes, d.Services, d.Checks = d.Nodes[:min(room, 8)], d.Services[:room], d.Checks[:room]
			d.Intentions, d.Entries, d.Sessions = d.Intentions[:room], d.Entries[:room], d.Sessions[:room]
		})
		s, m := loaded(t, most, full)
		for _, c := range []api.Cmd{laysService(0, "x"), laysCheck(0, "x", "", 0), intends(api.CIntend, "*", "x", true, 0), onKey(api.CSet, "x", "", 0), onNode(api.COpen, 0, "")} {
			does(t, s, m, c, errFull)
		}
		if room < 8 {
			unloaded(t, most, turned(full, func(d *api.Dump) { d.Nodes = all.Nodes[:room+1] }))
		}
		unloaded(t, most, turned(full, func(d *api.Dump) { d.Services = all.Services[:room+1] }))
		unloaded(t, most, turned(full, func(d *api.Dump) { d.Checks = all.Checks[:room+1] }))
		unloaded(t, most, turned(full, func(d *api.Dump) { d.Intentions = all.Intentions[:room+1] }))
		unloaded(t, most, turned(full, func(d *api.Dump) { d.Entries = all.Entries[:room+1] }))
		unloaded(t, most, turned(full, func(d *api.Dump) { d.Sessions = all.Sessions[:room+1] }))
	}
}

// P21.5: a state that is not there, or that no call made, has ErrNil, whatever else is wrong, and does nothing else.
func TestP215NoState(t *testing.T) {
	l := append(invalid(), rows()...)
	for _, s := range []*state.State{nil, {}, new(state.State)} {
		for range 2 {
			for _, c := range l {
				for _, client := range []int{0, 15, 16, -1} {
					if r, again := s.Apply(api.Order{Client: client, Seq: 1, C: c}); r != (api.Result{Err: errNil}) || again {
						t.Fatalf("Apply(%+v) = %+v, %t, want ErrNil", c, r, again)
					}
				}
			}
			if d := s.Dump(); !same(d, api.Dump{}) || s.Index() != 0 || s.Copy() != nil {
				t.Fatalf("%+v, %d, %v", d, s.Index(), s.Copy())
			}
			if s.Kv() != nil || s.Intents() != nil || s.Roster() != nil || s.Sessions() != nil {
				t.Fatalf("%v, %v, %v, %v", s.Kv(), s.Intents(), s.Roster(), s.Sessions())
			}
		}
	}
}

// R3: Load keeps nothing of its dump, nor writes behind its ends.
func TestLoadArgument(t *testing.T) {
	d := dumped(t)
	short := turned(d, func(d *api.Dump) {
		d.Nodes, d.Services, d.Checks = slices.Grow(d.Nodes, 5), slices.Grow(d.Services, 5), slices.Grow(d.Checks, 5)
		d.Intentions, d.Entries, d.Sessions = slices.Grow(d.Intentions, 5), slices.Grow(d.Entries, 5), slices.Grow(d.Sessions, 5)
	})
	s, m := loaded(t, 9, short)
	ok(t, s, m, goods()...)
	if !same(short, d) || short.Nodes[:4][3] != (api.Node{}) || short.Services[:4][3].Id != "" || short.Entries[:6][5] != (api.Entry{}) || short.Sessions[:5][4] != (api.Session{}) {
		t.Fatalf("the dump was turned to %+v", short)
	}
	blot(short)
	agree(t, s, m)
}
