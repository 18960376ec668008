// Package bounds tells which numbers are in order.
package bounds

import "gossip/api"

// Within asks whether n is one of the numbers from least to most, both of them among these.
func Within(n, least, most int) bool { return n >= least && n <= most }

// IsId asks whether n is an id.
func IsId(n int) bool { return Within(n, 1, api.MaxId) }
