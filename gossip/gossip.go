// Package gossip: who is there: a node that probes others, is probed, and passes on what it hears: see DOC.md.
package gossip

import (
	"gossip/api"
	"gossip/wire"
)

// Encode writes a message (P3).
func Encode(m api.Message) (string, error) { return wire.Encode(m) }

// Decode reads one (P3).
func Decode(b string) (api.Message, error) { return wire.Decode(b) }

// Node is one of many.
type Node struct{}

// New makes a node (P4); draw gives a number below n.
func New(c api.Config, draw func(n int) int) (*Node, error) { return nil, nil }

// See tells all that can be seen (P4).
func (x *Node) See() api.State { return api.State{} }

// Events is where changes of the table are told (P6).
func (x *Node) Events() <-chan api.Key { return nil }

// Receive takes a packet; what it sends (P5, P7).
func (x *Node) Receive(b string) []api.Packet { return nil }

// Join asks another one for its table (P8).
func (x *Node) Join(id int) ([]api.Packet, error) { return nil, nil }

// Leave lets the node go (P8).
func (x *Node) Leave() error { return nil }

// Tick is one tick of the clock; what it sends (P9).
func (x *Node) Tick() []api.Packet { return nil }
