package direct

import (
	"testing"

	"seedbed/api"
)

// TestP81Scope checks scopes: what is asked, and what each way of ending comes to.
func TestP81Scope(t *testing.T) {
	wantRows(t, []row{
		{"scope { emit 1; } emit 2;", "- - - -", "open 0 -1; emit 1; leave; emit 2; done"},
		{"scope supervised { }", "- -", "open 1 -1; leave; done"},
		{"scope within 3 * 2 { }", "- -", "open 0 6; leave; done"},
		{"scope supervised within 0 { }", "- -", "open 1 0; leave; done"},
		{"scope within -1 { }", "- -", "open 0 -1; leave; done"},
		{"scope within -7 { }", "- -", "open 0 -7; leave; done"},
		{"scope { emit 1; } emit 2;", "!full", "open 0 -1; done !full"},
		{"scope { throw \"x\"; } emit 2;", "- - -", "open 0 -1; leave !x; emit 2; done"},
		{"scope { throw \"x\"; } emit 2;", "- !x", "open 0 -1; leave !x; done !x"},
		{"scope { throw \"x\"; } emit 2;", "- !late", "open 0 -1; leave !x; done !late"},
		{"scope { throw \"x\"; } emit 2;", "- ~", "open 0 -1; leave !x; done ~"},
		{"scope { sleep 1; } emit 2;", "- ~ -", "open 0 -1; sleep 1; leave ~; emit 2"},
		{"scope { sleep 1; } emit 2;", "- ~ ~", "open 0 -1; sleep 1; leave ~; done ~"},
		{"scope { emit 1; } emit 2;", "- - !late", "open 0 -1; emit 1; leave; done !late"},
		{"scope { emit 1; } emit 2;", "- - ~", "open 0 -1; emit 1; leave; done ~"},
		{"scope { return; } emit 2;", "- -", "open 0 -1; leave; done"},
		{"scope { return; } emit 2;", "- !x", "open 0 -1; leave; done !x"},
		{"while true { scope { break; } } emit 2;", "- - -", "open 0 -1; leave; emit 2; done"},
		{"while true { scope { break; } } emit 2;", "- !x", "open 0 -1; leave; done !x"},
		{"while true { scope { continue; } emit 1; }", "- - - -", "open 0 -1; leave; open 0 -1; leave; open 0 -1"},
		{"let x = f(); emit x; | fn f() int { scope { return 5; } throw \"n\"; }", "- - -", "open 0 -1; leave; emit 5; done"},
		{"scope { scope { throw \"x\"; } } emit 2;", "- - !x -", "open 0 -1; open 0 -1; leave !x; leave !x; emit 2"},
		{"try { scope { } } catch e { emit e; }", "- !late -", "open 0 -1; leave; emit \"late\"; done"},
	})
}

// TestP81Shield checks shields.
func TestP81Shield(t *testing.T) {
	wantRows(t, []row{
		{"shield { emit 1; } emit 2;", "- - - -", "shield; emit 1; unveil; emit 2; done"},
		{"shield { emit 1; } emit 2;", "!full", "shield; done !full"},
		{"shield { throw \"x\"; } emit 2;", "- -", "shield; unveil; done !x"},
		{"shield { throw \"x\"; } emit 2;", "- !y", "shield; unveil; done !x"},
		{"shield { emit 1; } emit 2;", "- - !y", "shield; emit 1; unveil; done !y"},
		{"shield { return; } emit 2;", "- -", "shield; unveil; done"},
		{"shield { return; } emit 2;", "- !y", "shield; unveil; done !y"},
		{"shield { sleep 1; } emit 2;", "- ~ !y", "shield; sleep 1; unveil; done ~"},
		{"while true { shield { break; } } emit 2;", "- - -", "shield; unveil; emit 2; done"},
		{"while true { shield { break; } } emit 2;", "- !y", "shield; unveil; done !y"},
		{"while true { shield { continue; } emit 1; }", "- - -", "shield; unveil; shield; unveil"},
	})
}

// TestP81Use checks resources, also the chapter's first example.
func TestP81Use(t *testing.T) {
	wantRows(t, []row{
		{"use r = 7 { sleep 5; }", "- - -", "acquire 7; sleep 5; release 7; done"},
		{"use r = 7 { sleep 5; }", "- !x -", "acquire 7; sleep 5; release 7; done !x"},
		{"use r = 7 { sleep 5; }", "- ~ -", "acquire 7; sleep 5; release 7; done ~"},
		{"use r = 3 + 4 { emit r; r = 8; emit r; } emit 9;", "- - - -", "acquire 7; emit 7; emit 8; release 7; emit 9"},
		{"use r = 7 { emit r; } emit 9;", "!range", "acquire 7; done !range"},
		{"use r = 7 { throw \"x\"; } emit 9;", "- !y", "acquire 7; release 7; done !x"},
		{"use r = 7 { } emit 9;", "- !y", "acquire 7; release 7; done !y"},
		{"use r = 7 { return; } emit 9;", "- !y", "acquire 7; release 7; done !y"},
		{"use r = 7 { use s = 8 { throw \"x\"; } }", "- - - -", "acquire 7; acquire 8; release 8; release 7; done !x"},
		{"while true { use r = 7 { break; } }", "- -", "acquire 7; release 7; done"},
		{"let n = 1; while true { use r = n { n = n + 1; continue; } }", "- - - -", "acquire 1; release 1; acquire 2; release 2; acquire 3"},
	})
}

// TestP81Hold checks locks.
func TestP81Hold(t *testing.T) {
	for _, r := range []row{
		{"hold l { emit 1; } emit 2;", "- - - -", "hold lock#6; emit 1; free lock#6; emit 2; done"},
		{"hold l { l = m; emit l; } emit 2;", "- - -", "hold lock#6; emit lock#8; free lock#6; emit 2"},
		{"hold l { emit 1; } emit 2;", "~", "hold lock#6; done ~"},
		{"hold l { emit 1; } emit 2;", "!none", "hold lock#6; done !none"},
		{"hold l { throw \"x\"; } emit 2;", "- !y", "hold lock#6; free lock#6; done !x"},
		{"hold l { } emit 2;", "- !y", "hold lock#6; free lock#6; done !y"},
		{"hold l { return; } emit 2;", "- -", "hold lock#6; free lock#6; done"},
		{"hold l { hold m { sleep 1; } } emit 2;", "- - ~ - -", "hold lock#6; hold lock#8; sleep 1; free lock#8; free lock#6; done ~"},
		{"while true { hold l { break; } } emit 2;", "- - -", "hold lock#6; free lock#6; emit 2; done"},
	} {
		wantTurns(t, "fn main() { } fn f(l lock, m lock) { "+r[0]+" }", 1, []api.Value{{Kind: api.KLock, N: 6}, {Kind: api.KLock, N: 8}}, r[1], r[2])
	}
}

// TestP81Try checks tries: which endings are caught, and when what is last counts.
func TestP81Try(t *testing.T) {
	wantRows(t, []row{
		{`try { throw "a"; } catch e { emit e; } finally { emit 2; }`, "- -", `emit "a"; emit 2; done`},
		{`try { emit 1; } catch e { emit e; } emit 3;`, "- -", "emit 1; emit 3; done"},
		{`try { emit 1; } finally { emit 2; } emit 3;`, "- - -", "emit 1; emit 2; emit 3; done"},
		{`try { throw "a"; } finally { emit 2; } emit 3;`, "-", "emit 2; done !a"},
		{`try { throw "a"; } catch e { throw e + "b"; } emit 3;`, "", "done !ab"},
		{`try { throw "a"; } catch e { throw e + "b"; } finally { emit 2; } emit 3;`, "-", "emit 2; done !ab"},
		{`try { throw "a"; } catch e { throw "b"; } finally { throw "c"; } emit 3;`, "", "done !c"},
		{`try { throw "a"; } finally { return; } emit 3;`, "", "done"},
		{`try { throw "a"; } catch e { } finally { emit 2; } emit 3;`, "- -", "emit 2; emit 3; done"},
		{`try { sleep 1; } catch e { emit e; } emit 3;`, "~", "sleep 1; done ~"},
		{`try { sleep 1; } catch e { emit e; } emit 3;`, "!x -", `sleep 1; emit "x"; emit 3`},
		{`try { sleep 1; } catch e { emit e; } finally { emit 2; } emit 3;`, "~ -", "sleep 1; emit 2; done ~"},
		{`try { sleep 1; } finally { sleep 2; } emit 3;`, "!x ~", "sleep 1; sleep 2; done ~"},
		{`try { sleep 1; } finally { sleep 2; } emit 3;`, "~ !x", "sleep 1; sleep 2; done !x"},
		{`try { return; } catch e { emit e; } finally { emit 2; } emit 3;`, "-", "emit 2; done"},
		{`try { return; } finally { throw "x"; } emit 3;`, "", "done !x"},
		{`while true { try { break; } finally { emit 2; } } emit 3;`, "- -", "emit 2; emit 3; done"},
		{`while true { try { throw "x"; } finally { break; } } emit 3;`, "-", "emit 3; done"},
		{`while true { try { return; } catch e { } finally { break; } } emit 3;`, "-", "emit 3; done"},
		{`let x = f(); emit x; | fn f() int { try { return 1; } finally { return 2; } }`, "-", "emit 2; done"},
		{`let x = f(); emit x; | fn f() int { let n = 1; try { return n; } finally { n = 2; } }`, "-", "emit 1; done"},
		{`let x = f(); emit x; | fn f() int { try { throw ""; } catch e { return 2; } finally { } }`, "-", "emit 2; done"},
		{`try { try { throw "a"; } catch e { throw "b"; } } catch d { emit d; }`, "-", `emit "b"; done`},
		{`try { try { throw "a"; } finally { emit 1; } } catch d { emit d; }`, "- -", `emit 1; emit "a"; done`},
		{`try { throw "kind"; } catch e { emit e == "kind"; e = "z"; emit e; }`, "- -", `emit true; emit "z"; done`},
		{`let n = 0; while n < 2 { try { n = n + 1; if n == 1 { continue; } emit n; } finally { emit 7; } }`, "- - -", "emit 7; emit 2; emit 7; done"},
	})
}

// TestP81Select checks selects with each case.
func TestP81Select(t *testing.T) {
	all := "select { receive x from c { emit x; } send d, 7 { emit 2; } after 3 { emit 3; } else { emit 4; } } emit 9;"
	ask := "select (1 chan#4 unit 0) (2 chan#5 7 0) (3 unit unit 3) 1"
	for _, r := range []row{
		{all, "", ask},
		{all, "0:6 - -", ask + "; emit 6; emit 9; done"},
		{all, "1:0 -", ask + "; emit 2; emit 9"},
		{all, "2:0 -", ask + "; emit 3; emit 9"},
		{all, "3:0 -", ask + "; emit 4; emit 9"},
		{all, "~", ask + "; done ~"},
		{all, "!kind", ask + "; done !kind"},
		{"try { " + all + " } catch e { emit e; }", "!closed -", ask + `; emit "closed"; done`},
		{"select { else { emit 1; } }", "-", "select 1; emit 1"},
		{"select { after -1 { return; } } emit 2;", "-", "select (3 unit unit -1) 0; done"},
		{"select { receive x from c { throw \"x\"; } receive y from d { emit y; } } emit 2;", "0:1", "select (1 chan#4 unit 0) (1 chan#5 unit 0) 0; done !x"},
		{"select { receive x from c { throw \"x\"; } receive y from d { emit y; } } emit 2;", "1:8 -", "select (1 chan#4 unit 0) (1 chan#5 unit 0) 0; emit 8; emit 2"},
		{"while true { select { after 1 { break; } after 2 { continue; } after 3 { } } emit 1; } emit 2;", "1:0 2:0 - 0:0", "select (3 unit unit 1) (3 unit unit 2) (3 unit unit 3) 0; select (3 unit unit 1) (3 unit unit 2) (3 unit unit 3) 0; emit 1; select (3 unit unit 1) (3 unit unit 2) (3 unit unit 3) 0; emit 2"},
		{"select { after 1 { emit 1; } send c, 1 / 0 { } }", "", "done !zero"},
		{"select { send c, -1000000000000 - 1 { } send c, 1 / 0 { } }", "", "done !big"},
		{"select { send c, 1 { } send c, 2 { } send d, 3 { } send d, 4 { } }", "3:0", "select (2 chan#4 1 0) (2 chan#4 2 0) (2 chan#5 3 0) (2 chan#5 4 0) 0; done"},
	} {
		wantTurns(t, "fn main() { } fn f(c chan, d chan) { "+r[0]+" }", 1, []api.Value{channel(4), channel(5)}, r[1], r[2])
	}
}

// TestP81Each checks streams, also the chapter's third example.
func TestP81Each(t *testing.T) {
	begin := "open 0 -1; chan 0 0; spawn 1 chan#8; "
	const flow = " | fn f() flow { }"
	wantRows(t, []row{
		{"each x from f() { break; } emit 9;" + flow, "- 8 6 1 - - -", begin + "receive chan#8; cancel task#6; leave; emit 9; done"},
		{"each x from f() { emit x; } emit 9;" + flow, "- 8 6 1 - 2 - !closed - -", begin + "receive chan#8; emit 1; receive chan#8; emit 2; receive chan#8; cancel task#6; leave; emit 9"},
		{"each x from f() { if x == 1 { continue; } emit x; }" + flow, "- 8 6 1 2 -", begin + "receive chan#8; receive chan#8; emit 2; receive chan#8"},
		{"each x from f() { return; } emit 9;" + flow, "- 8 6 1 - -", begin + "receive chan#8; cancel task#6; leave; done"},
		{"each x from f() { return; } emit 9;" + flow, "- 8 6 1 - !y", begin + "receive chan#8; cancel task#6; leave; done !y"},
		{"each x from f() { return; } emit 9;" + flow, "- 8 6 1 !z -", begin + "receive chan#8; cancel task#6; leave !z; emit 9"},
		{"each x from f() { break; } emit 9;" + flow, "- 8 6 1 !z !w", begin + "receive chan#8; cancel task#6; leave !z; done !w"},
		{"each x from f() { throw \"a\"; } emit 9;" + flow, "- 8 6 1 - -", begin + "receive chan#8; cancel task#6; leave !a; emit 9"},
		{"each x from f() { throw \"a\"; } emit 9;" + flow, "- 8 6 1 - !a", begin + "receive chan#8; cancel task#6; leave !a; done !a"},
		{"each x from f() { throw \"a\"; } emit 9;" + flow, "- 8 6 1 !z -", begin + "receive chan#8; cancel task#6; leave !z; emit 9"},
		{"each x from f() { sleep 1; } emit 9;" + flow, "- 8 6 1 ~ - ~", begin + "receive chan#8; sleep 1; cancel task#6; leave ~; done ~"},
		{"each x from f() { } emit 9;" + flow, "- 8 6 ~ - ~", begin + "receive chan#8; cancel task#6; leave ~; done ~"},
		{"each x from f() { } emit 9;" + flow, "- 8 6 !close - -", begin + "receive chan#8; cancel task#6; leave !close; emit 9"},
		{"each x from f() { } emit 9;" + flow, "- 8 6 !closed !z -", begin + "receive chan#8; cancel task#6; leave !z; emit 9"},
		{"each x from f() { } emit 9;" + flow, "!full", "open 0 -1; done !full"},
		{"each x from f() { } emit 9;" + flow, "- !full -", "open 0 -1; chan 0 0; leave !full; emit 9"},
		{"each x from f() { } emit 9;" + flow, "- !closed !x", "open 0 -1; chan 0 0; leave !closed; done !x"},
		{"each x from f() { } emit 9;" + flow, "- 8 !full !x", begin + "leave !full; done !x"},
		{"each x from f() { } emit 9;" + flow, "- 8 !closed -", begin + "leave !closed; emit 9"},
		{"each x from f(1 / 0) { } emit 9; | fn f(n int) flow { }", "- 8 -", "open 0 -1; chan 0 0; leave !zero; emit 9"},
		{"each x from f(1 / 0) { } emit 9; | fn f(n int) flow { }", "!full", "open 0 -1; done !full"},
		{"each x from f(1, true) { } | fn f(n int, b bool) flow { }", "- 8 6", "open 0 -1; chan 0 0; spawn 1 1 true chan#8; receive chan#8"},
		{"each x from f() buffer 3 { }" + flow, "-", "open 0 -1; chan 3 0"},
		{"each x from f() buffer 16 drop old { }" + flow, "-", "open 0 -1; chan 16 1"},
		{"each x from f() buffer 0 drop new { }" + flow, "-", "open 0 -1; chan 0 2"},
		{"while true { each x from f() { break; } emit 9; break; }" + flow, "- 8 6 1 - - -", begin + "receive chan#8; cancel task#6; leave; emit 9; done"},
		{"let n = 1; each x from f() { n = x; x = 5; emit x + n; } emit n;" + flow, "- 8 6 2 - !closed - -", begin + "receive chan#8; emit 7; receive chan#8; cancel task#6; leave; emit 2"},
	})
	wantTurns(t, "fn main() { } fn f() flow { } fn g(c chan) { each x from f() { let y = receive c else break; } emit 9; }", 2, []api.Value{channel(3)}, "- 8 6 1 !closed - - -", begin+"receive chan#8; receive chan#3; cancel task#6; leave; emit 9; done")
}

// TestP81Flow checks flows: their outlet, and that it is closed whatever happens.
func TestP81Flow(t *testing.T) {
	for _, r := range []row{
		{"produce n; produce n + 1;", "- - -", "send chan#3 5; send chan#3 6; close chan#3; done"},
		{"", "-", "close chan#3; done"},
		{"", "!none", "close chan#3; done !none"},
		{"return; produce 1;", "-", "close chan#3; done"},
		{"return;", "!x", "close chan#3; done !x"},
		{"throw \"a\";", "-", "close chan#3; done !a"},
		{"throw \"a\";", "!b", "close chan#3; done !b"},
		{"produce 1; emit 2;", "~ -", "send chan#3 1; close chan#3; done ~"},
		{"produce 1; emit 2;", "!closed -", "send chan#3 1; close chan#3; done !closed"},
		{"produce 1; emit 2;", "~ !x", "send chan#3 1; close chan#3; done !x"},
		{"produce 1 / 0;", "-", "close chan#3; done !zero"},
		{"g(); throw \"a\";", "- -", "emit 1; close chan#3; done !a"},
		{"let n2 = n; n = 1; produce n2;", "- -", "send chan#3 5; close chan#3; done"},
		{"use r = 7 { produce n; }", "- ~ - -", "acquire 7; send chan#3 5; release 7; close chan#3; done ~"},
		{"h(24);", "-", "close chan#3; done !deep"},
		{"h(22);", "-", "close chan#3; done"},
	} {
		wantTurns(t, "fn main() { } fn f(n int) flow { "+r[0]+" } fn g() { emit 1; } fn h(k int) { if k > 0 { h(k - 1); } }", 1, []api.Value{num(5), channel(3)}, r[1], r[2])
	}
	wantTurns(t, "fn main() { } fn f() flow { produce 1; }", 1, []api.Value{channel(api.MaxInt)}, "- -", "send chan#1000000000000 1; close chan#1000000000000; done")
	wantTurns(t, "fn main() { } fn f(c chan) flow { produce 1; send c, 2; }", 1, []api.Value{channel(1), channel(2)}, "- - -", "send chan#2 1; send chan#1 2; close chan#2; done")
}
