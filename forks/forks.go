// Package forks: trees, tables, a server, clients, auditors: see DOC.md.
package forks
