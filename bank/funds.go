package bank

import (
	"cmp"
	"slices"
	"strings"

	"handsel/api"
)

// with is a book in which an account has so much more of an asset, or less: as much as it has at most.
func with(b api.Book, who, asset string, amount int) api.Book {
	i, found := findFund(b.Funds, who, asset)
	behind := b.Funds[i:]
	if found {
		amount += b.Funds[i].Amount
		behind = behind[1:]
	}
	var fund []api.Fund
	if amount != 0 {
		fund = []api.Fund{{Account: who, Asset: asset, Amount: amount}}
	}
	// The list is new: the book that was handed in stays as it was.
	b.Funds = slices.Concat(b.Funds[:i], fund, behind)
	return b
}

func findFund(funds []api.Fund, who, asset string) (int, bool) {
	return search(funds, api.Fund{Account: who, Asset: asset}, inOrder)
}

// inOrder tells how Funds follow one another, as cmp.Compare does; their Amounts play no part.
func inOrder(a, b api.Fund) int {
	return cmp.Or(strings.Compare(a.Account, b.Account), strings.Compare(a.Asset, b.Asset))
}

// stock is all that there is: the Funds, and what escrows hold as Funds of nobody.
func stock(b api.Book) []api.Fund {
	list := slices.Clone(b.Funds)
	for _, e := range b.Escrows {
		if e.State == api.Held && within(e.Arc, 0, len(e.Spec.Arcs)-1) {
			arc := e.Spec.Arcs[e.Arc]
			list = append(list, api.Fund{Asset: arc.Asset, Amount: arc.Amount})
		}
	}
	return list
}

// hasRoom tells whether an asset is there, or may be one more.
func hasRoom(b api.Book, asset string) bool {
	list := assets(b)
	_, found := search(list, asset, strings.Compare)
	return found || len(list) < api.MaxAssets
}

// assets is those that there are, rising, each once.
func assets(b api.Book) []string {
	var list []string
	for _, f := range stock(b) {
		if i, found := search(list, f.Asset, strings.Compare); !found {
			list = slices.Insert(list, i, f.Asset)
		}
	}
	return list
}

// search is where in a rising list an item stands, or would stand, and whether it is there.
func search[T any](list []T, item T, order func(a, b T) int) (int, bool) {
	low, high := 0, len(list)
	for low < high {
		middle := low + (high-low)/2
		if order(list[middle], item) < 0 {
			low = middle + 1
		} else {
			high = middle
		}
	}
	return low, low < len(list) && order(list[low], item) == 0
}
