// Package faces has tests alone: they hold the calls of all layers to the chapters that list them, and package api to the document.
package faces
