package pool

import (
	"slices"
	"testing"

	"elenchus/api"
)

const (
	most   = 1<<63 - 1
	lowest = -1 << 63
)

func row(at, n int) api.Row { return api.Row{At: at, Len: n} }

// made answers a pool of that limit.
func made(t *testing.T, limit int) *Pool {
	t.Helper()
	p, e := New(limit)
	if p == nil || e != api.OK {
		t.Fatalf("New(%d): %v, %d", limit, p, e)
	}
	return p
}

// takes takes n cells, which must lie at that place.
func takes(t *testing.T, p *Pool, n, at int) {
	t.Helper()
	if x, e := p.Take(n); x != at || e != api.OK {
		t.Errorf("Take(%d) = %d, %d, not %d", n, x, e, at)
	}
}

// refuses tries to take n cells, which must be refused so.
func refuses(t *testing.T, p *Pool, n int, want api.Errno) {
	t.Helper()
	if at, e := p.Take(n); at != 0 || e != want {
		t.Errorf("Take(%d) = %d, %d, not error %d", n, at, e, want)
	}
}

// does checks that a call was answered with OK.
func does(t *testing.T, e api.Errno) {
	t.Helper()
	if e != api.OK {
		t.Errorf("error %d", e)
	}
}

// holds checks all that tells what a pool has: its top, and the segments' starts and runs.
func holds(t *testing.T, p *Pool, top int, starts []int, runs ...[]api.Row) {
	t.Helper()
	if p.Top() != top || !slices.Equal(p.Starts(), starts) {
		t.Errorf("top %d, starts %v, not %d, %v", p.Top(), p.Starts(), top, starts)
	}
	free := make([]bool, top)
	left := p.Limit() - top
	for i, rows := range runs {
		if l := p.Runs(i); !slices.Equal(l, rows) {
			t.Errorf("runs of segment %d: %v, not %v", i, l, rows)
		}
		for _, r := range rows {
			left += r.Len
			for at := range r.Len {
				free[r.At+at] = true
			}
		}
	}
	for at, is := range free {
		if p.Free(at) != is {
			t.Errorf("Free(%d) = %v", at, p.Free(at))
		}
	}
	if p.Left() != left {
		t.Errorf("Left %d, not %d", p.Left(), left)
	}
}

// P3.1: limits that may be, and those that may not.
func TestNew(t *testing.T) {
	for _, limit := range []int{0, 1, 2, 1000, api.MaxRoom - 1, api.MaxRoom} {
		p := made(t, limit)
		if p.Limit() != limit {
			t.Errorf("Limit %d, not %d", p.Limit(), limit)
		}
		holds(t, p, 0, []int{0}, nil)
	}
	for _, limit := range []int{-1, lowest, api.MaxRoom + 1, 1 << 32, most} {
		if p, e := New(limit); p != nil || e != api.ErrArg {
			t.Errorf("New(%d) = %v, %d", limit, p, e)
		}
	}
}

// P3.1: the chapter's example.
func TestTakeAgain(t *testing.T) {
	p := made(t, 100)
	takes(t, p, 3, 0)
	does(t, p.Give(0, 3))
	takes(t, p, 2, 0)
	takes(t, p, 2, 3)
	holds(t, p, 5, []int{0}, []api.Row{row(2, 1)})
}

// P3.1: a number of cells that may not be, ahead of there being no room.
func TestTakeRefuses(t *testing.T) {
	for _, limit := range []int{0, 5} {
		p := made(t, limit)
		for _, n := range []int{0, -1, -5, lowest} {
			refuses(t, p, n, api.ErrArg)
		}
		for _, n := range []int{limit + 1, 1 << 31, 1 << 32, 1<<32 + 1, most} {
			refuses(t, p, n, api.ErrFull)
		}
		holds(t, p, 0, []int{0}, nil)
	}
}

// P3.1: a pool of limit 0 has no cell to take, give or tell of.
func TestNoRoom(t *testing.T) {
	p := made(t, 0)
	refuses(t, p, 1, api.ErrFull)
	if p.Give(0, 1) != api.ErrArg || p.Give(0, 0) != api.ErrArg || p.Close() != api.ErrNone || p.Back() != api.OK {
		t.Error("it has cells")
	}
	does(t, p.Open())
	refuses(t, p, 1, api.ErrFull)
	holds(t, p, 0, []int{0, 0}, nil, nil)
	if p.Free(0) || p.Segment(0) != -1 || p.Sweep(func(int) bool { t.Error("asked"); return true }) != 0 {
		t.Error("it tells of cells")
	}
}

// P3.1: a full pool still has what is given back, in a run that is long enough.
func TestFull(t *testing.T) {
	p := made(t, 6)
	takes(t, p, 4, 0)
	refuses(t, p, 3, api.ErrFull)
	takes(t, p, 2, 4)
	refuses(t, p, 1, api.ErrFull)
	holds(t, p, 6, []int{0}, nil)
	does(t, p.Give(1, 2))
	does(t, p.Give(4, 2))
	refuses(t, p, 3, api.ErrFull)
	holds(t, p, 6, []int{0}, []api.Row{row(1, 2), row(4, 2)})
	does(t, p.Give(3, 1))
	takes(t, p, 5, 1)
	refuses(t, p, 1, api.ErrFull)
	holds(t, p, 6, []int{0}, nil)
}

// P3.1: the first run that is long enough is taken from, at its beginning.
func TestFirstRun(t *testing.T) {
	p := made(t, 40)
	takes(t, p, 30, 0)
	for _, r := range []api.Row{row(20, 5), row(2, 1), row(10, 4), row(5, 2)} {
		does(t, p.Give(r.At, r.Len))
	}
	holds(t, p, 30, []int{0}, []api.Row{row(2, 1), row(5, 2), row(10, 4), row(20, 5)})
	takes(t, p, 3, 10)
	takes(t, p, 1, 2)
	takes(t, p, 2, 5)
	takes(t, p, 2, 20)
	takes(t, p, 4, 30)
	takes(t, p, 1, 13)
	takes(t, p, 3, 22)
	takes(t, p, 6, 34)
	refuses(t, p, 1, api.ErrFull)
}

// P3.1: a run at the top that is too short is not made longer.
func TestRunAtTop(t *testing.T) {
	p := made(t, 8)
	takes(t, p, 4, 0)
	does(t, p.Give(2, 2))
	takes(t, p, 3, 4)
	holds(t, p, 7, []int{0}, []api.Row{row(2, 2)})
	refuses(t, p, 3, api.ErrFull)
	takes(t, p, 2, 2)
}

// P3.1: runs that touch are one, whichever side they touch on.
func TestRunsTouch(t *testing.T) {
	for _, c := range []struct {
		gives []api.Row
		runs  []api.Row
	}{
		{[]api.Row{row(2, 2), row(4, 2)}, []api.Row{row(2, 4)}},
		{[]api.Row{row(4, 2), row(2, 2)}, []api.Row{row(2, 4)}},
		{[]api.Row{row(2, 2), row(6, 2), row(4, 2)}, []api.Row{row(2, 6)}},
		{[]api.Row{row(2, 2), row(6, 2), row(4, 1)}, []api.Row{row(2, 3), row(6, 2)}},
		{[]api.Row{row(2, 2), row(6, 2), row(5, 1)}, []api.Row{row(2, 2), row(5, 3)}},
		{[]api.Row{row(0, 1), row(9, 1)}, []api.Row{row(0, 1), row(9, 1)}},
		{[]api.Row{row(0, 1), row(9, 1), row(1, 8)}, []api.Row{row(0, 10)}},
		{[]api.Row{row(0, 10)}, []api.Row{row(0, 10)}},
		{[]api.Row{row(1, 1), row(3, 1), row(5, 1), row(4, 1)}, []api.Row{row(1, 1), row(3, 3)}},
	} {
		p := made(t, 12)
		takes(t, p, 10, 0)
		for _, g := range c.gives {
			does(t, p.Give(g.At, g.Len))
		}
		holds(t, p, 10, []int{0}, c.runs)
	}
}

// P3.1: cells that may not be given; nothing has changed then.
func TestGiveRefuses(t *testing.T) {
	p := made(t, 20)
	takes(t, p, 4, 0)
	does(t, p.Open())
	takes(t, p, 6, 4)
	does(t, p.Open())
	takes(t, p, 2, 10)
	does(t, p.Give(6, 2))
	for _, r := range []api.Row{
		row(0, 0), row(0, -1), row(0, lowest), row(8, 0), row(5, -1), // too few
		row(-1, 1), row(-1, 2), row(lowest, 1), row(lowest, most), // no such cells
		row(12, 1), row(11, 2), row(19, 1), row(20, 1), row(most, 1), row(most, most), row(10, 3), row(0, most), row(1, most),
		row(3, 2), row(0, 5), row(0, 12), row(9, 2), row(8, 4), // of two segments
		row(6, 1), row(6, 2), row(7, 1), row(5, 2), row(5, 3), row(7, 2), row(5, 4), row(4, 6), // free ones among them
	} {
		if e := p.Give(r.At, r.Len); e != api.ErrArg {
			t.Errorf("Give(%d, %d): %d", r.At, r.Len, e)
		}
	}
	holds(t, p, 12, []int{0, 4, 10}, nil, []api.Row{row(6, 2)}, nil)
}

// P3.1: the first and the last cell of a segment are given, and only the last segment's are taken again.
func TestSegmentsEnds(t *testing.T) {
	p := made(t, 20)
	takes(t, p, 4, 0)
	does(t, p.Open())
	takes(t, p, 4, 4)
	does(t, p.Open())
	takes(t, p, 4, 8)
	for _, at := range []int{0, 3, 4, 7, 8, 11} {
		does(t, p.Give(at, 1))
	}
	holds(t, p, 12, []int{0, 4, 8}, []api.Row{row(0, 1), row(3, 1)}, []api.Row{row(4, 1), row(7, 1)}, []api.Row{row(8, 1), row(11, 1)})
	takes(t, p, 1, 8)
	takes(t, p, 1, 11)
	takes(t, p, 1, 12)
	does(t, p.Give(8, 5))
	holds(t, p, 13, []int{0, 4, 8}, []api.Row{row(0, 1), row(3, 1)}, []api.Row{row(4, 1), row(7, 1)}, []api.Row{row(8, 5)})
}

// P3.2: runs on both sides of a seam are two, till the seam is gone.
func TestSeam(t *testing.T) {
	for _, c := range []struct {
		gives []api.Row
		two   [][]api.Row
		one   []api.Row
	}{
		{[]api.Row{row(2, 2), row(4, 3)}, [][]api.Row{{row(2, 2)}, {row(4, 3)}}, []api.Row{row(2, 5)}},
		{[]api.Row{row(4, 3), row(2, 2)}, [][]api.Row{{row(2, 2)}, {row(4, 3)}}, []api.Row{row(2, 5)}},
		{[]api.Row{row(2, 2), row(5, 3)}, [][]api.Row{{row(2, 2)}, {row(5, 3)}}, []api.Row{row(2, 2), row(5, 3)}},
		{[]api.Row{row(2, 1), row(4, 3)}, [][]api.Row{{row(2, 1)}, {row(4, 3)}}, []api.Row{row(2, 1), row(4, 3)}},
		{[]api.Row{row(3, 1)}, [][]api.Row{{row(3, 1)}, nil}, []api.Row{row(3, 1)}},
		{[]api.Row{row(4, 1)}, [][]api.Row{nil, {row(4, 1)}}, []api.Row{row(4, 1)}},
		{[]api.Row{row(0, 4), row(4, 4)}, [][]api.Row{{row(0, 4)}, {row(4, 4)}}, []api.Row{row(0, 8)}},
	} {
		p := made(t, 10)
		takes(t, p, 4, 0)
		does(t, p.Open())
		takes(t, p, 4, 4)
		for _, g := range c.gives {
			does(t, p.Give(g.At, g.Len))
		}
		holds(t, p, 8, []int{0, 4}, c.two...)
		does(t, p.Close())
		holds(t, p, 8, []int{0}, c.one)
		for i, r := range c.one {
			takes(t, p, r.Len, r.At)
			holds(t, p, 8, []int{0}, c.one[i+1:])
		}
	}
}

// P3.2: with an empty segment between them runs touch at no seam that is gone.
func TestEmptySegmentBetween(t *testing.T) {
	p := made(t, 10)
	takes(t, p, 4, 0)
	does(t, p.Open())
	does(t, p.Open())
	takes(t, p, 4, 4)
	does(t, p.Give(3, 1))
	does(t, p.Give(4, 1))
	holds(t, p, 8, []int{0, 4, 4}, []api.Row{row(3, 1)}, nil, []api.Row{row(4, 1)})
	does(t, p.Close())
	holds(t, p, 8, []int{0, 4}, []api.Row{row(3, 1)}, []api.Row{row(4, 1)})
	takes(t, p, 1, 4)
	does(t, p.Give(4, 2))
	does(t, p.Close())
	holds(t, p, 8, []int{0}, []api.Row{row(3, 3)})
	if e := p.Close(); e != api.ErrNone {
		t.Error("Close of the only segment:", e)
	}
	takes(t, p, 3, 3)
}

// P3.2: there may be MaxSegs segments.
func TestMostSegments(t *testing.T) {
	p := made(t, 2*api.MaxSegs)
	for i := range api.MaxSegs {
		takes(t, p, 2, 2*i)
		does(t, p.Give(2*i+i%2, 1))
		want := api.OK
		if i == api.MaxSegs-1 {
			want = api.ErrFull
		}
		if e := p.Open(); e != want {
			t.Fatalf("Open, when there are %d: %d", i+1, e)
		}
	}
	starts := p.Starts()
	if len(starts) != api.MaxSegs || p.Top() != 2*api.MaxSegs || p.Left() != api.MaxSegs || p.Open() != api.ErrFull {
		t.Error(len(starts), p.Top(), p.Left())
	}
	for i, start := range starts {
		if start != 2*i || p.Segment(start) != i || p.Segment(start+1) != i || !slices.Equal(p.Runs(i), []api.Row{row(start+i%2, 1)}) {
			t.Fatal(i, start, p.Segment(start), p.Runs(i))
		}
	}
	for range api.MaxSegs - 1 {
		does(t, p.Close())
	}
	if p.Close() != api.ErrNone || len(p.Starts()) != 1 || p.Segment(2*api.MaxSegs-1) != 0 || p.Left() != api.MaxSegs {
		t.Error("closed", p.Starts(), p.Left())
	}
	// The second cell of one and the first one of the next touch, or two taken ones do.
	if l := p.Runs(0); l[0] != row(0, 1) || l[1] != row(3, 2) || len(l) != api.MaxSegs/2+1 {
		t.Error(len(l), l[:2])
	}
}

// P3.2: Back leaves the last segment without cells, the others as they are.
func TestBack(t *testing.T) {
	p := made(t, 10)
	takes(t, p, 3, 0)
	does(t, p.Give(2, 1))
	does(t, p.Open())
	does(t, p.Back())
	holds(t, p, 3, []int{0, 3}, []api.Row{row(2, 1)}, nil)
	takes(t, p, 7, 3)
	does(t, p.Give(3, 2))
	does(t, p.Give(6, 1))
	does(t, p.Give(9, 1))
	does(t, p.Back())
	holds(t, p, 3, []int{0, 3}, []api.Row{row(2, 1)}, nil)
	if p.Free(3) || p.Free(6) || p.Give(3, 1) != api.ErrArg || p.Segment(3) != -1 {
		t.Error("cells that are gone")
	}
	takes(t, p, 7, 3)
	holds(t, p, 10, []int{0, 3}, []api.Row{row(2, 1)}, nil)
	does(t, p.Close())
	does(t, p.Back())
	holds(t, p, 0, []int{0}, nil)
	if e := p.Close(); e != api.ErrNone {
		t.Error(e)
	}
}

// P3.2: Back again and again, to several segments that begin at one place.
func TestBackThroughSegments(t *testing.T) {
	p := made(t, 10)
	takes(t, p, 2, 0)
	for range 3 {
		does(t, p.Open())
		takes(t, p, 2, p.Top())
		does(t, p.Give(p.Top()-2, 2))
	}
	holds(t, p, 8, []int{0, 2, 4, 6}, nil, []api.Row{row(2, 2)}, []api.Row{row(4, 2)}, []api.Row{row(6, 2)})
	for i := 3; i >= 0; i-- {
		does(t, p.Back())
		does(t, p.Back())
		if p.Top() != 2*i || p.Left() != 10-2*i+2*max(i-1, 0) || len(p.Runs(i)) != 0 {
			t.Error(i, p.Top(), p.Left(), p.Runs(i))
		}
		if e := p.Close(); (e == api.OK) != (i > 0) {
			t.Error(i, e)
		}
	}
}

// P3.3: what is told of cells and segments that are not there.
func TestNoSuchCell(t *testing.T) {
	p := made(t, 10)
	takes(t, p, 4, 0)
	does(t, p.Give(3, 1))
	for _, at := range []int{-1, lowest, 4, 9, 10, 1 << 32, 1<<32 + 3, most} {
		if p.Free(at) || p.Segment(at) != -1 {
			t.Errorf("%d: free %v, segment %d", at, p.Free(at), p.Segment(at))
		}
	}
	for _, segment := range []int{-1, lowest, 1, 2, 1 << 32, most} {
		if l := p.Runs(segment); len(l) != 0 {
			t.Errorf("runs of %d: %v", segment, l)
		}
	}
}

// P3.3: the segment of a cell, also where several segments begin, and whether it is free or not.
func TestSegment(t *testing.T) {
	p := made(t, 10)
	does(t, p.Open())
	takes(t, p, 3, 0)
	does(t, p.Open())
	does(t, p.Open())
	does(t, p.Open())
	takes(t, p, 2, 3)
	does(t, p.Open())
	does(t, p.Give(0, 1))
	does(t, p.Give(4, 1))
	for at, segment := range []int{1, 1, 1, 4, 4, -1} {
		if p.Segment(at) != segment {
			t.Errorf("Segment(%d) = %d, not %d", at, p.Segment(at), segment)
		}
	}
	holds(t, p, 5, []int{0, 0, 3, 3, 3, 5}, nil, []api.Row{row(0, 1)}, nil, nil, []api.Row{row(4, 1)}, nil)
}

// P3.3: Sweep asks of the taken cells alone, in order, and frees those that do not live, segment by segment.
func TestSweep(t *testing.T) {
	p := made(t, 20)
	takes(t, p, 6, 0)
	does(t, p.Open())
	takes(t, p, 6, 6)
	does(t, p.Give(2, 1))
	does(t, p.Give(9, 2))
	var asked []int
	gone := p.Sweep(func(at int) bool {
		asked = append(asked, at)
		return at == 0 || at == 4 || at == 11
	})
	if gone != 6 || !slices.Equal(asked, []int{0, 1, 3, 4, 5, 6, 7, 8, 11}) {
		t.Error(gone, asked)
	}
	holds(t, p, 12, []int{0, 6}, []api.Row{row(1, 3), row(5, 1)}, []api.Row{row(6, 5)})
	if n := p.Sweep(func(int) bool { return true }); n != 0 {
		t.Error("all live:", n)
	}
	holds(t, p, 12, []int{0, 6}, []api.Row{row(1, 3), row(5, 1)}, []api.Row{row(6, 5)})
	if n := p.Sweep(func(int) bool { return false }); n != 3 {
		t.Error("none lives:", n)
	}
	holds(t, p, 12, []int{0, 6}, []api.Row{row(0, 6)}, []api.Row{row(6, 6)})
	if n := p.Sweep(func(int) bool { t.Error("asked"); return false }); n != 0 {
		t.Error("none is taken:", n)
	}
	takes(t, p, 6, 6)
}

// R1: a function that panics, or is none, leaves all as it is.
func TestSweepPanics(t *testing.T) {
	p := made(t, 20)
	takes(t, p, 6, 0)
	does(t, p.Give(1, 1))
	for _, live := range []func(int) bool{nil, func(at int) bool {
		if at == 4 {
			panic("no")
		}
		return false
	}} {
		if n := p.Sweep(live); n != 0 {
			t.Error(n)
		}
		holds(t, p, 6, []int{0}, []api.Row{row(1, 1)})
	}
}

// R1: a function that calls the pool, as it may not, makes nothing panic.
func TestSweepCallsBack(t *testing.T) {
	for _, call := range []func(p *Pool){
		func(p *Pool) { p.Back() },
		func(p *Pool) { p.Take(1) },
		func(p *Pool) { p.Give(2, 2) },
		func(p *Pool) { p.Open() },
		func(p *Pool) { p.Close(); p.Back() },
	} {
		p := made(t, 20)
		takes(t, p, 4, 0)
		does(t, p.Open())
		takes(t, p, 4, 4)
		p.Sweep(func(at int) bool { call(p); return at%2 == 0 })
		p.Back()
		if p.Left() < 0 || p.Left() > 20 {
			t.Error(p.Left())
		}
	}
}

// P3.3: of a nil pool, and of one that New did not make, whatever is asked.
func TestClosed(t *testing.T) {
	for _, p := range []*Pool{nil, new(Pool)} {
		for _, n := range []int{-1, 0, 1, most} {
			if at, e := p.Take(n); at != 0 || e != api.ErrClosed {
				t.Error("Take", n, at, e)
			}
			if e := p.Give(0, n); e != api.ErrClosed {
				t.Error("Give", n, e)
			}
			if len(p.Runs(n)) != 0 || p.Free(n) || p.Segment(n) != -1 {
				t.Error("it has cells", n)
			}
		}
		if p.Open() != api.ErrClosed || p.Close() != api.ErrClosed || p.Back() != api.ErrClosed {
			t.Error("Open, Close, Back")
		}
		if p.Top() != 0 || p.Limit() != 0 || len(p.Starts()) != 0 || p.Left() != 0 {
			t.Error("Top, Limit, Starts, Left")
		}
		if p.Sweep(func(int) bool { t.Error("asked"); return false }) != 0 || p.Sweep(nil) != 0 {
			t.Error("Sweep")
		}
	}
}

// R3: lists that are answered are new memory, their spare room too.
func TestAnswersApart(t *testing.T) {
	p := made(t, 20)
	takes(t, p, 6, 0)
	does(t, p.Open())
	does(t, p.Give(1, 1))
	does(t, p.Give(3, 1))
	starts, runs := p.Starts(), p.Runs(0)
	for i := range starts[:cap(starts)] {
		starts[:cap(starts)][i] = 17
	}
	for i := range runs[:cap(runs)] {
		runs[:cap(runs)][i] = row(17, 17)
	}
	does(t, p.Open())
	holds(t, p, 6, []int{0, 6, 6}, []api.Row{row(1, 1), row(3, 1)}, nil, nil)
	if starts[0] != 17 || runs[0] != row(17, 17) {
		t.Error("an answer has changed")
	}
}

// R4: two pools have nothing to do with each other.
func TestPoolsApart(t *testing.T) {
	a, b := made(t, 10), made(t, 10)
	takes(t, a, 3, 0)
	takes(t, b, 5, 0)
	does(t, a.Open())
	does(t, b.Give(1, 2))
	holds(t, a, 3, []int{0, 3}, nil, nil)
	holds(t, b, 5, []int{0}, []api.Row{row(1, 2)})
}

// P3.1, P3.3: the greatest limit, cell by cell: as many runs as there may be, and one in the end.
func TestGreatestLimit(t *testing.T) {
	p := made(t, api.MaxRoom)
	for i := range api.MaxRoom {
		if at, e := p.Take(1); at != i || e != api.OK {
			t.Fatal(i, at, e)
		}
	}
	refuses(t, p, 1, api.ErrFull)
	for i := 0; i < api.MaxRoom; i += 2 {
		if e := p.Give(i, 1); e != api.OK {
			t.Fatal(i, e)
		}
	}
	refuses(t, p, 2, api.ErrFull)
	if l := p.Runs(0); len(l) != api.MaxRoom/2 || l[1] != row(2, 1) || p.Left() != api.MaxRoom/2 {
		t.Error(len(l), p.Left())
	}
	if p.Free(api.MaxRoom-1) || !p.Free(api.MaxRoom-2) || p.Segment(api.MaxRoom-1) != 0 {
		t.Error("the last cells")
	}
	if n := p.Sweep(func(at int) bool { return at%4 != 1 }); n != api.MaxRoom/4 {
		t.Error(n)
	}
	takes(t, p, 3, 0)
	for i := 3; i < api.MaxRoom; i += 4 {
		if e := p.Give(i, 1); e != api.OK {
			t.Fatal(i, e)
		}
	}
	if l := p.Runs(0); len(l) != 1 || l[0] != row(3, api.MaxRoom-3) {
		t.Error(len(l), l[0])
	}
	does(t, p.Back())
	takes(t, p, api.MaxRoom, 0)
	refuses(t, p, 1, api.ErrFull)
	does(t, p.Give(0, api.MaxRoom))
	if l := p.Runs(0); !slices.Equal(l, []api.Row{row(0, api.MaxRoom)}) || p.Left() != api.MaxRoom {
		t.Error(len(l), p.Left())
	}
}

// plain is a pool, told as plainly as can be: which cells are free, and where segments begin.
type plain struct {
	free   []bool
	starts []int
	limit  int
}

func (q *plain) end(segment int) int {
	if segment == len(q.starts)-1 {
		return len(q.free)
	}
	return q.starts[segment+1]
}

func (q *plain) segment(at int) int {
	for i := range q.starts {
		if at >= q.starts[i] && at < q.end(i) {
			return i
		}
	}
	return -1
}

func (q *plain) runs(segment int) []api.Row {
	var l []api.Row
	for at := q.starts[segment]; at < q.end(segment); at++ {
		if !q.free[at] {
			continue
		}
		if k := len(l) - 1; k >= 0 && l[k].At+l[k].Len == at {
			l[k].Len++
		} else {
			l = append(l, row(at, 1))
		}
	}
	return l
}

func (q *plain) take(n int) (int, api.Errno) {
	if n < 1 {
		return 0, api.ErrArg
	}
	for _, r := range q.runs(len(q.starts) - 1) {
		if r.Len >= n {
			for i := range n {
				q.free[r.At+i] = false
			}
			return r.At, api.OK
		}
	}
	if len(q.free)+n > q.limit {
		return 0, api.ErrFull
	}
	at := len(q.free)
	q.free = append(q.free, make([]bool, n)...)
	return at, api.OK
}

func (q *plain) give(at, n int) api.Errno {
	if n < 1 {
		return api.ErrArg
	}
	for i := at; i < at+n; i++ {
		if i < 0 || i >= len(q.free) || q.free[i] || q.segment(i) != q.segment(at) {
			return api.ErrArg
		}
	}
	for i := range n {
		q.free[at+i] = true
	}
	return api.OK
}

// same checks that the pool tells what the plain one tells.
func (q *plain) same(t *testing.T, p *Pool) {
	t.Helper()
	left := q.limit - len(q.free)
	for at, is := range q.free {
		if is {
			left++
		}
		if p.Free(at) != is || p.Segment(at) != q.segment(at) {
			t.Fatalf("cell %d: free %v, segment %d", at, p.Free(at), p.Segment(at))
		}
	}
	if p.Top() != len(q.free) || p.Left() != left || !slices.Equal(p.Starts(), q.starts) {
		t.Fatalf("top %d, left %d, starts %v", p.Top(), p.Left(), p.Starts())
	}
	for i := range q.starts {
		if !slices.Equal(p.Runs(i), q.runs(i)) {
			t.Fatalf("runs of %d: %v, not %v", i, p.Runs(i), q.runs(i))
		}
	}
}

// P3.1 to P3.4: a long row of calls is answered as the plain pool answers it; what is taken was free, and is of the last segment.
func TestLikePlain(t *testing.T) {
	for _, limit := range []int{1, 7, 24, 65} {
		p, q := made(t, limit), &plain{limit: limit, starts: []int{0}}
		seed := uint64(limit)
		next := func(n int) int {
			seed = seed*6364136223846793005 + 1442695040888963407
			return int(seed >> 33 % uint64(n))
		}
		for step := range 6000 {
			switch next(13) {
			case 0, 1, 2, 3, 12:
				n := next(6)
				was := slices.Clone(q.free)
				at, e := p.Take(n)
				if x, f := q.take(n); x != at || f != e {
					t.Fatalf("step %d: Take(%d) = %d, %d, not %d, %d", step, n, at, e, x, f)
				}
				for i := at; e == api.OK && i < at+n; i++ {
					if i < len(was) && !was[i] || p.Segment(i) != len(q.starts)-1 {
						t.Fatalf("step %d: cell %d was taken", step, i)
					}
				}
			case 4, 5, 6, 7:
				at, n := next(limit+2)-1, next(5)
				if e, f := p.Give(at, n), q.give(at, n); e != f {
					t.Fatalf("step %d: Give(%d, %d): %d, not %d", step, at, n, e, f)
				}
			case 8:
				if p.Open() == api.OK {
					q.starts = append(q.starts, len(q.free))
				}
			case 9:
				e := p.Close()
				if last := len(q.starts) - 1; last > 0 {
					q.starts = q.starts[:last]
				} else if e != api.ErrNone {
					t.Fatal("Close", e)
				}
			case 10:
				p.Back()
				q.free = q.free[:q.starts[len(q.starts)-1]]
			case 11:
				k, gone := next(4), 0
				dies := func(at int) bool { return (at*7+step)%5 < k }
				for at, is := range q.free {
					if !is && dies(at) {
						q.free[at] = true
						gone++
					}
				}
				if n := p.Sweep(func(at int) bool { return !dies(at) }); n != gone {
					t.Fatalf("step %d: Sweep %d, not %d", step, n, gone)
				}
			}
			q.same(t, p)
		}
	}
}

// P3.4: what was taken is not taken once more, till it is given back, swept, or the pool goes back.
func TestTakenOnce(t *testing.T) {
	p := made(t, 500)
	owner := map[int]int{}
	own := func(id, n int) bool {
		at, e := p.Take(n)
		for i := at; e == api.OK && i < at+n; i++ {
			if other, is := owner[i]; is {
				t.Fatalf("cell %d of %d taken again by %d", i, other, id)
			}
			if p.Free(i) {
				t.Fatalf("cell %d is taken, and free", i)
			}
			owner[i] = id
		}
		return e == api.OK
	}
	for id := 0; own(id, id%4+1); id++ {
		if id%3 == 0 && p.Give(p.Top()-1, 1) == api.OK {
			delete(owner, p.Top()-1)
		}
		if id%20 == 19 {
			does(t, p.Open())
		}
	}
	if n := p.Sweep(func(at int) bool { return owner[at]%2 == 0 }); n == 0 {
		t.Error("nothing was swept")
	}
	for at, id := range owner {
		if id%2 == 1 {
			delete(owner, at)
		}
	}
	start := p.Starts()[len(p.Starts())-1]
	for id := 1000; own(id, 2); id++ {
	}
	for at, id := range owner {
		if id >= 1000 && at < start {
			t.Errorf("cell %d of an older segment was taken", at)
		}
	}
	does(t, p.Back())
	for at := range owner {
		if at >= start {
			delete(owner, at)
		}
	}
	for id := 2000; own(id, 3); id++ {
	}
}
