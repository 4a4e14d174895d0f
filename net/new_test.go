package net_test

import (
	"math"
	"slices"
	"testing"

	"tussock/api"
	"tussock/net"
)

// wrongKinds are just below and above the right ones, and far from them.
var wrongKinds = []int{-1, 5, -2, 6, 256, -256, 1 << 32, 1<<32 + 1, math.MinInt, math.MaxInt}

func wantNone(t *testing.T, n *net.Net, e, want api.Errno) {
	t.Helper()
	if n != nil || e != want {
		t.Errorf("New: %v, %d; want %d", n, e, want)
	}
}

// P15.1: a nil serve, without fates, with right ones, and with wrong ones: ErrNil is named first.
func TestNewWithoutServe(t *testing.T) {
	n, e := net.New(nil)
	wantNone(t, n, e, api.ErrNil)
	n, e = net.New(nil, fates("plth2")...)
	wantNone(t, n, e, api.ErrNil)
	for _, kind := range wrongKinds {
		n, e = net.New(nil, api.Fate{Kind: kind})
		wantNone(t, n, e, api.ErrNil)
		n, e = net.New(nil, pass, api.Fate{Kind: kind}, lose)
		wantNone(t, n, e, api.ErrNil)
	}
}

// P15.1: a fate that is not right, at each place among right ones, whatever its At and By; serve is not called.
func TestNewOfWrongFates(t *testing.T) {
	serve := func(frame string) string {
		t.Error("serve is called")
		return frame
	}
	for _, kind := range wrongKinds {
		for many := 1; many <= 6; many++ {
			for at := range many {
				l := fates("plth2p"[:many])
				l[at] = api.Fate{Kind: kind}
				n, e := net.New(serve, l...)
				wantNone(t, n, e, api.ErrNetForm)
				l[at] = api.Fate{Kind: kind, At: at, By: 1}
				n, e = net.New(serve, l...)
				wantNone(t, n, e, api.ErrNetForm)
			}
		}
	}
	n, e := net.New(serve, api.Fate{Kind: -1}, api.Fate{Kind: 5})
	wantNone(t, n, e, api.ErrNetForm)
}

// P15.1: each right kind, at each place, with any At and By, also where they mean nothing.
func TestNewOfRightFates(t *testing.T) {
	for kind := api.FPass; kind <= api.FTwice; kind++ {
		for _, at := range []int{0, 1, -1, math.MinInt, math.MaxInt} {
			for _, by := range []byte{0, 1, 255} {
				f := api.Fate{Kind: kind, At: at, By: by}
				for _, l := range [][]api.Fate{{f}, {f, pass}, {pass, f}, {lose, f, hold}, {f, f, f}} {
					newBench(t, shout, l...).wantCounts(t, 0, len(l))
				}
			}
		}
	}
}

// P15.2: At and By mean nothing but to FTurn.
func TestAtAndByOfOtherKinds(t *testing.T) {
	for _, at := range []int{0, 1, -1, 7, math.MinInt, math.MaxInt} {
		with := func(kind int) api.Fate { return api.Fate{Kind: kind, At: at, By: 255} }
		b := newBench(t, shout, with(api.FPass), with(api.FLose), with(api.FHold), with(api.FTwice), with(api.FPass), with(api.FTwice))
		b.wantAsk(t, "ab", "")
		b.wantAsk(t, "cd", "")
		b.wantAsk(t, "ef", "ef! ef! ef! cd!")
		b.wantServed(t, "ab ef ef cd")
		b.wantCounts(t, 3, 0)
	}
}

// P15.1: on a new net nothing waits, nothing was sent, and serve was not called; no fates are as an empty list of them.
func TestNewNet(t *testing.T) {
	for _, l := range [][]api.Fate{nil, {}, make([]api.Fate, 0, 5), fates("ppp"), fates("pplth2")} {
		b := newBench(t, shout, l...)
		b.wantCounts(t, 0, len(l))
		b.wantServed(t, "")
		b.wantAsk(t, "a", "a!")
		b.wantServed(t, "a")
		if len(l) == 0 {
			b.wantAsk(t, "b", "b!")
			b.wantCounts(t, 2, 0)
		}
	}
}

// P15.1: serve is called for what comes there, and else never: neither Sent nor Left nor an empty frame calls it, nor a frame that is lost, or that waits.
func TestWhenServeIsCalled(t *testing.T) {
	b := newBench(t, shout, fates("lhlh")...)
	for _, frame := range []string{"", "a", "b", "", "c", "d"} {
		b.Ask(frame)
		b.Sent()
		b.Left()
	}
	b.wantServed(t, "")
	b.wantAsk(t, "", "")
	b.wantServed(t, "")
	b.wantAsk(t, "e", "e! b! d!")
	b.wantServed(t, "e b d")
}

// P15.1, R4: nets share neither fates nor what waits nor counts, even of one serve and one list of fates.
func TestTwoNets(t *testing.T) {
	l := fates("hplp")
	var served []string
	serve := func(frame string) string {
		served = append(served, frame)
		return frame + "!"
	}
	one, _ := net.New(serve, l...)
	other, _ := net.New(serve, l...)
	wantTexts(t, "one", one.Ask("a"), nil)
	wantTexts(t, "one", one.Ask("b"), []string{"a!"}) // b! is lost
	wantTexts(t, "other", other.Ask("c"), nil)
	if one.Left() != 0 || other.Left() != 3 || one.Sent() != 2 || other.Sent() != 1 {
		t.Errorf("Left %d, %d; Sent %d, %d", one.Left(), other.Left(), one.Sent(), other.Sent())
	}
	wantTexts(t, "one", one.Ask("d"), []string{"d!"})
	wantTexts(t, "other", other.Ask("e"), []string{"c!"})
	wantTexts(t, "other", other.Ask("f"), []string{"f!"})
	if want := []string{"b", "a", "d", "e", "c", "f"}; !slices.Equal(served, want) {
		t.Errorf("serve: %q; want %q", served, want)
	}
}
