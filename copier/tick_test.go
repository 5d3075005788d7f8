package copier_test

import (
	"math"
	"testing"

	"scrivener/api"
)

// anew looks whether a copier asks anew, and is the same but for that.
func anew(t *testing.T, x told, was api.Copier, now uint64) {
	t.Helper()
	was.Since = now
	stays(t, x.c, was)
	if was.Phase == 1 {
		isAsked(t, x.reqs, 3, 1, less(firsts(6, 7), was.None...)...)
	} else {
		isPut(t, x.reqs, 3, 8, 1, "x", at(5, 2))
	}
}

// P18.4: three ticks behind being asked, or more, it asks anew, as long as that is less than nine behind the entry's turn.
func TestAgain(t *testing.T) {
	for _, c := range []api.Copier{seeking(t), copying(t)} {
		for _, since := range []uint64{0, 1, 20, math.MaxUint64 - 3} {
			for _, born := range []uint64{since, since + 1, since + 3, since - min(since, 5)} {
				c.Born, c.Since = born, since
				for now := since; now >= since && now < since+9; now++ {
					x := ticks(t, c, now)
					switch {
					case now >= born && now-born >= 9:
						if isNone(t, x.reqs); x.c.Phase != 4 {
							t.Errorf("%d of %d: %+v", now, born, x)
						}
					case now-since >= 3:
						anew(t, x, c, now)
					default:
						stays(t, x.c, c)
						isNone(t, x.reqs)
					}
				}
			}
		}
	}
}

// P18.4: nine ticks behind the entry's turn, or more, it is given up, and nothing is asked.
func TestPatience(t *testing.T) {
	for _, c := range []api.Copier{seeking(t), copying(t)} {
		for _, born := range []uint64{0, 1, 20, math.MaxUint64 - 9} {
			for _, since := range []uint64{0, born, born + 3, born + 9, math.MaxUint64} {
				c.Born, c.Since, c.None = born, since, firsts(7)
				for _, now := range []uint64{born + 9, born + 10, math.MaxUint64} {
					if now < born {
						continue
					}
					x := ticks(t, c, now)
					was := c
					was.Phase = 4
					stays(t, x.c, was)
					isNone(t, x.reqs)
				}
			}
		}
	}
}

// P18.4: ticks that are still to come count as none behind.
func TestAhead(t *testing.T) {
	for _, c := range []api.Copier{seeking(t), copying(t)} {
		for _, ahead := range []uint64{1, 2, 3, 8, 9, 10, 1 << 62, math.MaxUint64} {
			for _, now := range []uint64{0, 3, math.MaxUint64 - ahead} {
				if now > math.MaxUint64-ahead {
					continue
				}
				c.Born, c.Since = now+ahead, now+ahead
				x := ticks(t, c, now)
				stays(t, x.c, c)
				isNone(t, x.reqs)
				// Each of both counts by itself.
				if c.Since = 0; now >= 3 {
					anew(t, ticks(t, c, now), c, now)
				}
			}
		}
		// There is no tick that is so far behind these.
		for _, then := range []uint64{math.MaxUint64 - 2, math.MaxUint64 - 1, math.MaxUint64} {
			c.Born, c.Since = then, then
			for _, now := range []uint64{0, 1, 2, 8, 9, 100, then, math.MaxUint64} {
				x := ticks(t, c, now)
				stays(t, x.c, c)
				isNone(t, x.reqs)
			}
		}
	}
}

// P18.4: it asks those who have not said that they have none; all of them anew, if all have said so.
func TestAsks(t *testing.T) {
	for name, r := range map[string]struct{ none, asked, left []api.Place }{
		"nobody has said so":     {nil, firsts(6, 7), nil},
		"the first has":          {firsts(6), firsts(7), firsts(6)},
		"the second has":         {firsts(7), firsts(6), firsts(7)},
		"both have":              {firsts(6, 7), firsts(6, 7), nil},
		"both have, turned":      {firsts(7, 6), firsts(6, 7), nil},
		"both have, and another": {firsts(9, 7, 6), firsts(6, 7), nil},
		"another one has":        {firsts(8), firsts(6, 7), firsts(8)},
		"another disk has":       {[]api.Place{at(6, 2), at(7, 1)}, firsts(6), []api.Place{at(6, 2), at(7, 1)}},
		"the old one has":        {firsts(5), firsts(6, 7), firsts(5)},
		"one has twice":          {firsts(6, 6), firsts(7), firsts(6, 6)},
	} {
		c := seeking(t)
		c.None = r.none
		x := ticks(t, c, 6)
		c.None, c.Since = r.left, 6
		stays(t, x.c, c)
		if isAsked(t, x.reqs, 3, 1, r.asked...); t.Failed() {
			t.Fatal(name)
		}
	}
	// In Phase 2 nobody is asked who has it.
	c := copying(t)
	c.None = firsts(6, 7)
	x := ticks(t, c, 6)
	anew(t, x, c, 6)
}

// P18.4, P18.5: if there are no others, nobody is asked, and all of none have said so.
func TestAsksNobody(t *testing.T) {
	alone := three()
	alone.W, alone.A = 1, 1
	for _, l := range []api.Ledger{alone, {}, {W: 1}, {W: 2, Frags: []api.Frag{frag(0, firsts(8)...)}}} {
		for _, has := range [][]api.Place{nil, firsts(6), {{}}} {
			c := api.Copier{Ledger: l, From: at(8, 1), To: at(8, 2), Phase: 1, N: 2, None: has, Born: 3, Since: 3}
			x := ticks(t, c, 6)
			isNone(t, x.reqs)
			c.None, c.Since = nil, 6
			stays(t, x.c, c)
		}
	}
}

// P18.4: whoever is silent: asked thrice, then it is given up.
func TestSilent(t *testing.T) {
	for _, c := range []api.Copier{seeking(t), copying(t)} {
		asked := 0
		for now := uint64(3); now < 12; now++ {
			x := ticks(t, c, now)
			if len(x.reqs) > 0 {
				asked++
			}
			if c = x.c; c.Phase == 4 {
				t.Fatalf("given up at %d", now)
			}
		}
		x := ticks(t, c, 12)
		if isNone(t, x.reqs); x.c.Phase != 4 || asked != 2 {
			t.Errorf("asked %d times anew: %+v", asked, x)
		}
	}
}

// P18.4: each entry has so many ticks of its own, for being asked for and copied.
func TestBorn(t *testing.T) {
	c := seeking(t)
	x := takes(t, c, 11, got(3, 1, at(7, 1), "x"))
	if x = ticks(t, x.c, 12); x.c.Phase != 4 {
		t.Errorf("%+v", x)
	}
	x = takes(t, c, 11, got(3, 1, at(7, 1), "x"))
	x = takes(t, x.c, 11, put(3, 1, at(5, 2), api.RespOk))
	x = ticks(t, x.c, 12)
	if isNone(t, x.reqs); x.c.Phase != 1 {
		t.Errorf("%+v", x)
	}
	x = ticks(t, x.c, 19)
	isAsked(t, x.reqs, 3, 3, firsts(7, 8)...)
	if x = ticks(t, x.c, 20); x.c.Phase != 4 {
		t.Errorf("%+v", x)
	}
}
