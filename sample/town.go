package sample

// Town has modules that those that are made use.
const Town = `
cluster bag[t] is new, add, holds, size, each, from where t has equal: proc(?t, ?t) returns bool
  rep = array[?t]
  proc new() returns bag[?t] is return up(array[?t]$new()) end
  proc add(b: bag[?t], x: ?t) signals (overflow) is if not bag[?t]$find(b, x) then array[?t]$addh(down(b), x) end end
  proc holds(b: bag[?t], x: ?t) returns bool is return bag[?t]$find(b, x) end
  proc size(b: bag[?t]) returns int is return array[?t]$size(down(b)) end
  iter each(b: bag[?t]) yields ?t is for x: ?t in items{?t}(down(b)) do yield x end end
  proc from(a: array[?t]) returns bag[?t] is return up(a) end
  proc find(b: bag[?t], x: ?t) returns bool is for y: ?t in bag[?t]$each(b) do if y = x then return true end end; return false end
end
cluster box[t] is new, get, set
  rep = record[v:?t]
  proc new(x: ?t) returns box[?t] is return up(record[v:?t]$make(x)) end
  proc get(b: box[?t]) returns ?t is return down(b).v end
  proc set(b: box[?t], x: ?t) is down(b).v := x end
end
cluster coin is make, heads, equal, twice
  rep = bool
  proc make(b: bool) returns coin is return up(b) end
  proc heads(c: coin) returns bool is return down(c) end
  proc equal(c: coin, d: coin) returns bool is return down(c) = down(d) end
  iter twice(c: coin) yields coin is yield c; yield coin$turned(c) end
  proc turned(c: coin) returns coin is return up(not down(c)) end
end
cluster count is new, next, get
  rep = box[int]
  proc new() returns count is return up(box[int]$new(0)) end
  proc next(c: count) returns int signals (overflow) is box[int]$set(down(c), box[int]$get(down(c)) + 1); return count$get(c) end
  proc get(c: count) returns int is return box[int]$get(down(c)) end
end
cluster list[t] is empty, cons, head, each
  rep = oneof[none:null,some:record[first:?t,rest:list[?t]]]
  proc empty() returns list[?t] is return up(oneof[none:null,some:record[first:?t,rest:list[?t]]]$make_none(nil)) end
  proc cons(x: ?t, l: list[?t]) returns list[?t] is return up(oneof[none:null,some:record[first:?t,rest:list[?t]]]$make_some(record[first:?t,rest:list[?t]]$make(x, l))) end
  proc head(l: list[?t]) returns ?t is tagcase down(l) tag some(p: record[first:?t,rest:list[?t]]): return p.first end end
  iter each(l: list[?t]) yields ?t is tagcase down(l) tag some(p: record[first:?t,rest:list[?t]]): yield p.first; for x: ?t in list[?t]$each(p.rest) do yield x end tag none(n: null): end end
end
proc deep(n: int) returns int is if n < 1 then return 0 end; return 1 + deep(n - 1) end
proc idle() is end
iter items[t](a: array[?t]) yields ?t signals (bounds) is var i: int := 1; while i <= array[?t]$size(a) do yield a[i]; i := i + 1 end end
proc least[t](a: ?t, b: ?t) returns ?t where t has lt: proc(?t, ?t) returns bool is if a < b then return a end; return b end
proc say(n: int) returns int is put n; return n end
proc trio[t](x: ?t, y: ?t) returns array[?t] is var a: array[?t] := array[?t]$new(); array[?t]$addh(a, x); array[?t]$addh(a, y); array[?t]$addh(a, x); return a end
iter upto(a: int, b: int) yields int signals (low) is if b < a then signal low end; while a <= b do yield a; a := a + 1 end end
`
