package remote

import (
	"tussock/api"
	"tussock/hash"
)

// isNone tells whether it is no server that NewServer gave.
func (s *Server) isNone() bool { return s == nil || s.objs == nil }

// keep keeps an object of bytes that are the server's own, and tells its id.
func (s *Server) keep(bytes string) string {
	id := hash.Sum(bytes)
	s.objs[id] = api.Object{Id: id, Bytes: bytes}
	return id
}

// give answers who wants objects.
func (s *Server) give(want api.Frame) api.Frame {
	have := api.Frame{Kind: api.WHave, Number: want.Number}
	for _, id := range once(want.Ids) {
		if o, ok := s.objs[id]; ok {
			have.Objs = append(have.Objs, o.Bytes)
		} else {
			have.Ids = append(have.Ids, id)
		}
	}
	return have
}

// take answers who brings some.
func (s *Server) take(push api.Frame) api.Frame {
	var ids []string
	for _, bytes := range push.Objs {
		ids = append(ids, s.keep(bytes))
	}
	return api.Frame{Kind: api.WAck, Number: push.Number, Ids: once(ids)}
}
