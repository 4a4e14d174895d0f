package net_test

import (
	"math/big"
	"slices"
	"strings"
	"testing"

	"tussock/api"
	"tussock/net"
)

var (
	pass  = api.Fate{Kind: api.FPass}
	lose  = api.Fate{Kind: api.FLose}
	hold  = api.Fate{Kind: api.FHold}
	twice = api.Fate{Kind: api.FTwice}
)

func turn(at int, by byte) api.Fate { return api.Fate{Kind: api.FTurn, At: at, By: by} }

// fates reads one a letter: p, l, h, 2; t turns the first byte by 32, so that small letters become great ones.
func fates(letters string) []api.Fate {
	var out []api.Fate
	for _, c := range letters {
		out = append(out, map[rune]api.Fate{'p': pass, 'l': lose, 'h': hold, '2': twice, 't': turn(0, 32)}[c])
	}
	return out
}

// shout answers as in the chapter's examples.
func shout(frame string) string { return frame + "!" }

// bench is a net, and what who serves on it saw.
type bench struct {
	*net.Net
	served []string
	left   []int // how many fates were left, at each call of serve
}

func newBench(t testing.TB, serve func(frame string) string, fates ...api.Fate) *bench {
	t.Helper()
	b := &bench{}
	n, e := net.New(func(frame string) string {
		b.served = append(b.served, frame)
		b.left = append(b.left, b.Left())
		return serve(frame)
	}, fates...)
	if n == nil || e != api.OK {
		t.Fatalf("New(%v): %v, %d", fates, n, e)
	}
	b.Net = n
	return b
}

// wantAsk asks for what comes back, as words.
func (b *bench) wantAsk(t testing.TB, frame, want string) {
	t.Helper()
	wantTexts(t, "Ask("+head(frame)+")", b.Ask(frame), strings.Fields(want))
}

// wantServed asks what serve was called with since the last time, as words.
func (b *bench) wantServed(t testing.TB, want string) {
	t.Helper()
	wantTexts(t, "serve", b.served, strings.Fields(want))
	b.served = nil
}

func (b *bench) wantCounts(t testing.TB, sent, left int) {
	t.Helper()
	if b.Sent() != sent || b.Left() != left {
		t.Errorf("Sent %d, Left %d; want %d, %d", b.Sent(), b.Left(), sent, left)
	}
}

func wantTexts(t testing.TB, what string, got, want []string) {
	t.Helper()
	if !slices.Equal(got, want) {
		t.Errorf("%s: %q; want %q", what, heads(got), heads(want))
	}
}

// head keeps what a failed test tells short.
func head(s string) string { return s[:min(len(s), 20)] }

func heads(l []string) []string {
	var out []string
	for _, s := range l {
		out = append(out, head(s))
	}
	return out
}

// going is a frame on its way, in the plain reckoning.
type going struct {
	text string
	way  int // 0: there, 1: back
}

// plain is a net as the chapter's words say it. All that goes is noted, nothing is ever taken out of a list: what is left and what waits is told by how far one came.
type plain struct {
	serve func(frame string) string
	fates []api.Fate
	taken int
	sent  int
	held  []going
	freed [2]int // how many of a way's held ones came by now
	went  []going
	came  []going
}

func (p *plain) ask(frame string) []string {
	if len(frame) == 0 {
		return nil
	}
	p.sent++
	var back []string
	for _, f := range p.goes(going{frame, 0}) {
		answer := p.serve(f)
		if len(answer) == 0 {
			continue
		}
		back = append(back, p.goes(going{answer, 1})...)
	}
	return back
}

// goes is what comes when a frame goes.
func (p *plain) goes(g going) []string {
	p.went = append(p.went, g)
	kind, at, by := api.FPass, 0, byte(0)
	if p.taken < len(p.fates) {
		kind, at, by = p.fates[p.taken].Kind, p.fates[p.taken].At, p.fates[p.taken].By
		p.taken++
	}
	var come []string
	switch kind {
	case api.FPass:
		come = append(come, g.text)
	case api.FTurn:
		come = append(come, plainlyTurned(g.text, at, by))
	case api.FHold:
		p.held = append(p.held, g)
	case api.FTwice:
		come = append(come, g.text)
		come = append(come, g.text)
	}
	if len(come) != 0 {
		come = append(come, p.free(g.way)...)
	}
	for _, text := range come {
		p.came = append(p.came, going{text, g.way})
	}
	return come
}

// free are the held ones of a way that did not come yet.
func (p *plain) free(way int) []string {
	var all []string
	for _, h := range p.held {
		if h.way == way {
			all = append(all, h.text)
		}
	}
	ahead := p.freed[way]
	p.freed[way] = len(all)
	return all[ahead:]
}

func (p *plain) left() int { return len(p.fates) - p.taken }

// plainlyTurned reckons the place in numbers without an end.
func plainlyTurned(s string, at int, by byte) string {
	place := big.NewInt(int64(at))
	if place.Sign() < 0 {
		place.Sub(big.NewInt(-1), place)
	}
	place.Mod(place, big.NewInt(int64(len(s))))
	i := int(place.Int64())
	a := s[i]
	return s[:i] + string([]byte{a&^by | by&^a}) + s[i+1:]
}
