package hashkey

import (
	"slices"
	"strings"

	"handsel/api"
	"handsel/codec"
)

// Bytes is a key as bytes.
func Bytes(k api.Hashkey) string {
	if !fits(k) {
		return ""
	}
	var out strings.Builder
	out.WriteString(codec.Num(k.Lock))
	out.WriteString(codec.Text(k.Secret))
	out.WriteString(codec.Num(len(k.Path)))
	for _, v := range k.Path {
		out.WriteString(codec.Num(v))
	}
	for _, sig := range k.Sigs {
		out.WriteString(codec.Text(sig))
	}
	return out.String()
}

// Read is the key of bytes.
func Read(b string) (api.Hashkey, api.Errno) {
	k, ok := read(b)
	if !ok || !fits(k) {
		return api.Hashkey{}, api.ErrBytes
	}
	return k, api.OK
}

// read is what Bytes wrote, and whether it is that and no more; the key may be one that does not fit.
func read(b string) (api.Hashkey, bool) {
	r := codec.New(b)
	k := api.Hashkey{Lock: r.Num(), Secret: r.Text(maxSecret)}
	// One number tells of both lists.
	count := r.Count(api.MaxParties)
	for range count {
		k.Path = append(k.Path, r.Num())
	}
	for range count {
		k.Sigs = append(k.Sigs, r.Text(sigSize))
	}
	return k, !r.Bad() && r.Left() == 0
}

// fits tells whether a key has bytes: each of its numbers and texts is of a size that one of some swap may have.
func fits(k api.Hashkey) bool {
	return below(k.Lock, api.MaxLeaders) && len(k.Secret) <= maxSecret &&
		0 < len(k.Path) && len(k.Path) <= api.MaxParties && len(k.Sigs) == len(k.Path) &&
		!slices.ContainsFunc(k.Path, func(v int) bool { return !below(v, api.MaxParties) }) &&
		!slices.ContainsFunc(k.Sigs, func(sig string) bool { return len(sig) != sigSize })
}
