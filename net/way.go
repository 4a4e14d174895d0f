package net

import (
	"strings"

	"tussock/api"
)

// way takes a frame that goes on it, and answers which frames come by that.
type way func(frame string) []string

// newWay is a way on which nothing waits; each frame that goes on it takes a fate. Frames are copied, as some are kept, and as who serves may answer with what it was handed.
func newWay(takeFate func() api.Fate) way {
	var waiting []string
	return func(frame string) []string {
		frame = strings.Clone(frame)
		fate := takeFate()
		if fate.Kind == api.FHold {
			waiting = append(waiting, frame)
			return nil
		}
		come := comingNow(frame, fate)
		if len(come) > 0 {
			come = append(come, waiting...)
			waiting = nil
		}
		return come
	}
}

// comingNow is what comes of a frame that does not wait.
func comingNow(frame string, fate api.Fate) []string {
	switch fate.Kind {
	case api.FPass:
		return []string{frame}
	case api.FTurn:
		return []string{turned(frame, fate)}
	case api.FTwice:
		return []string{frame, frame}
	}
	return nil
}

// turned is a frame, one byte of which is not what it was.
func turned(frame string, fate api.Fate) string {
	at := fate.At
	if at < 0 {
		at = -1 - at // which, unlike -at, is a number for the least one, too
	}
	b := []byte(frame)
	b[at%len(b)] ^= fate.By
	return string(b)
}
