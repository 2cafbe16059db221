package gate

import "escapement/api"

// copied is a configuration that shares nothing with that one.
func copied(c api.Config) api.Config {
	c.Parts, c.Ports = copiedList(c.Parts), copiedList(c.Ports)
	for i := range c.Parts {
		c.Parts[i].Tasks = copiedList(c.Parts[i].Tasks)
	}
	return c
}

// copiedList is a list that has the same elements.
func copiedList[E any](l []E) []E {
	list := make([]E, len(l))
	copy(list, l)
	return list
}
