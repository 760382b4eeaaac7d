/-
  The landed functions of package lsns are as LsnsC says (Join, where the low numbers differ); and so the statements that need no more.
-/
import Derived.Test.YtkcjhkhdpafjhaaLsnsCodeJ
import Derived.Test.YtkcjhkhdpafjhaaLsnsCodeP
namespace Go.Proofs.Ytkcjhkhdpafjhaa
open Go.RowKit

theorem lsns_held : LsnsC where
  right x w h hn := right_any x w h (by omega)
  has x m w h hn _ := has_any x m w h (by omega)
  most x w h hn := most_any x w h (by omega)
  same x y w h h2 hn hn2 := same_any x y w h h2 (by omega) (by omega)
  add x m w h hn hm := (add_any x m w h hn).mono fun _ _ ht => ht.got ((h.fits.add hm).orZ _)
  raise x m w h hn hm := (raise_any x m w h hn).mono fun _ _ ht => ht.got ((h.fits.raise hm).orZ _)
  apart x y w h h2 hn hn2 hne := (join_from x y w h h2 hn hn2 (Lib.hid (.inl hne))).mono fun _ _ ht => ht.got ((h.fits.join h2.fits).orZ _)
  put x w h hn := put_any x w h hn

end Go.Proofs.Ytkcjhkhdpafjhaa
