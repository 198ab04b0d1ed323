/-
  One list, two lists beside a law, and blocks of the law's own. No condition.
-/
import Derived.Test.YtabhapohkohbmaaLrH
import Derived.Test.YtabhapohkohbmaaNmKit
namespace Go.Proofs.Ytabhapohkohbmaa
open Go.RowKit Go.Maps
set_option linter.unusedVariables false
set_option linter.unusedSimpArgs false

/-- One list that a law has made since w, and the law's own blocks D, which lie apart from it. -/
def One (w : World) (D : Nat → Prop) (p mst : Nat) (R : Rw) (wr : World) : Prop := ∃ T, LR wr p mst R T ∧ Below w.heap.size w wr ∧ (∀ k, T k → w.heap.size ≤ k) ∧ ∀ k, D k → k < wr.heap.size ∧ ¬ T k
/-- Two lists. -/
def Two (w : World) (D : Nat → Prop) (p mst : Nat) (R : Rw) (q nst : Nat) (S : Rw) (wr : World) : Prop := ∃ T U, LR wr p mst R T ∧ LR wr q nst S U ∧ Below w.heap.size w wr ∧ (∀ k, T k → w.heap.size ≤ k) ∧ (∀ k, U k → w.heap.size ≤ k) ∧ (∀ k, T k → ¬ U k) ∧ ∀ k, D k → k < wr.heap.size ∧ ¬ T k ∧ ¬ U k
/-- The law's own blocks lie as they lay. -/
def Stay (D : Nat → Prop) (w w' : World) : Prop := ∀ k, D k → w'.heap[k]? = w.heap[k]?
theorem lawKl {w wr w' : World} {T T' : Nat → Prop} (hb : Below w.heap.size w wr) (hT : ∀ k, T k → w.heap.size ≤ k) (hk : Kl T T' wr w') : Below w.heap.size w w' ∧ ∀ k, T' k → w.heap.size ≤ k :=
  ⟨hb.trans (hk.below hb.size hT), fun k hk' => Nat.le_of_not_lt fun hlt => hk.not (Nat.lt_of_lt_of_le hlt hb.size) (fun ht => absurd (hT k ht) (Nat.not_le.2 hlt)) hk'⟩
section
variable {w wr w' : World} {p mst q nst : Nat} {R R' S : Rw} {D D' : Nat → Prop}
theorem One.bel (h : One w D p mst R wr) : Below w.heap.size w wr := by
  obtain ⟨T, h1, h2, h3⟩ := h
  exact h2
theorem One.le (h : One w D p mst R wr) : R.length ≤ mst := by
  obtain ⟨T, h1, h2, h3⟩ := h
  exact h1.le
theorem One.unlike (h : One w D p mst R wr) : R.Pairwise fun x y => x.1 ≠ y.1 := by
  obtain ⟨T, h1, h2, h3⟩ := h
  exact h1.unlike
theorem One.next (h : One w D p mst R wr) (hb : Below wr.heap.size wr w') : One w D p mst R w' ∧ Stay D wr w' := by
  obtain ⟨T, h1, h2, h3, h4⟩ := h
  exact ⟨⟨T, h1.next hb, h2.trans (hb.mono h2.size), h3, fun k hk => ⟨Nat.lt_of_lt_of_le (h4 k hk).1 hb.size, (h4 k hk).2⟩⟩, fun k hk => hb.block k (h4 k hk).1⟩
/-- What was made since comes to the law's own. -/
theorem One.more (h : One w D p mst R wr) (hb : Below wr.heap.size wr w') (hD : ∀ k, D' k → D k ∨ (wr.heap.size ≤ k ∧ k < w'.heap.size)) : One w D' p mst R w' := by
  obtain ⟨T, h1, h2, h3, h4⟩ := h
  exact ⟨T, h1.next hb, h2.trans (hb.mono h2.size), h3, fun k hk => (hD k hk).elim (fun hd => ⟨Nat.lt_of_lt_of_le (h4 k hd).1 hb.size, (h4 k hd).2⟩) fun hn => ⟨hn.2, fun ht => absurd (h1.tl k ht) (Nat.not_lt.2 hn.1)⟩⟩
/-- The law's own are turned. -/
theorem One.turn (h : One w D p mst R wr) (hk : Kl D D' wr w') (hD : ∀ k, D k → w.heap.size ≤ k) (hD' : ∀ k, D' k → k < w'.heap.size) : One w D' p mst R w' := by
  obtain ⟨T, h1, h2, h3, h4⟩ := h
  exact ⟨T, h1.other hk (fun k ht hd => (h4 k hd).2 ht), (lawKl h2 hD hk).1, h3, fun k hd => ⟨hD' k hd, fun ht => hk.not (h1.tl k ht) (fun hd' => (h4 k hd').2 ht) hd⟩⟩
theorem one_kl {T T' : Nat → Prop} (h2 : Below w.heap.size w wr) (h3 : ∀ k, T k → w.heap.size ≤ k) (h4 : ∀ k, D k → k < wr.heap.size ∧ ¬ T k) (h' : LR w' p mst R' T') (hk : Kl T T' wr w') : One w D p mst R' w' ∧ Stay D wr w' := by
  obtain ⟨b, t⟩ := lawKl h2 h3 hk
  exact ⟨⟨T', h', b, t, fun k hd => ⟨Nat.lt_of_lt_of_le (h4 k hd).1 hk.size, hk.not (h4 k hd).1 (h4 k hd).2⟩⟩, fun k hd => (hk.kp k (h4 k hd).1 (h4 k hd).2).1⟩
theorem One.new (hb : Below w.heap.size w wr) (hD : ∀ k, D k → k < wr.heap.size) (most : Int) : Calls Try.prog 18 #[.int .i64 most] wr fun e w' => ∃ p, e = .returned (.pointer (some ⟨p, 0, none⟩)) ∧ One w D p most.toNat [] w' ∧ Below wr.heap.size wr w' := by
  refine (New_any wr most).mono ?_
  rintro e w' ⟨p, T, rfl, h, hb', hT⟩
  exact ⟨p, rfl, ⟨T, h, hb.trans (hb'.mono hb.size), fun k hk => Nat.le_trans hb.size (hT k hk), fun k hk => ⟨Nat.lt_of_lt_of_le (hD k hk) hb'.size, fun ht => absurd (hD k hk) (Nat.not_lt.2 (hT k ht))⟩⟩, hb'⟩
theorem One.put (h : One w D p mst R wr) {k : ByteArray} (hk : k.size ≤ 281474976710656) (hlen : R.length < 1099511627776) (hm : mst < 9223372036854775808) (v : Int) : Calls Try.prog 21 #[.pointer (some ⟨p, 0, none⟩), .string k, .int .i64 v] wr fun e w' =>
    e = .returned (.tuple #[.string (putR mst R k v).2.1, .bool (putR mst R k v).2.2.1, .int .i64 ((putR mst R k v).2.2.2 : Int)]) ∧ One w D p mst (putR mst R k v).1 w' ∧ Stay D wr w' := by
  obtain ⟨T, h1, h2, h3, h4⟩ := h
  refine (h1.put hk hlen hm v).mono ?_
  rintro e w' ⟨rfl, T', h', hk'⟩
  exact ⟨rfl, one_kl h2 h3 h4 h' hk'⟩
theorem One.get (h : One w D p mst R wr) {k : ByteArray} (hk : k.size ≤ maxLen) : Calls Try.prog 23 #[.pointer (some ⟨p, 0, none⟩), .string k] wr fun e w' => e = .returned (.tuple #[.int .i64 ((lookR R k).getD (0 : Int)), .bool (lookR R k).isSome]) ∧ One w D p mst (getR R k) w' ∧ Stay D wr w' := by
  obtain ⟨T, h1, h2, h3, h4⟩ := h
  refine (h1.get hk).mono ?_
  rintro e w' ⟨rfl, h', hk'⟩
  exact ⟨rfl, one_kl h2 h3 h4 h' hk'⟩
theorem One.Drop (h : One w D p mst R wr) {k : ByteArray} (hk : k.size ≤ maxLen) : Calls Try.prog 27 #[.pointer (some ⟨p, 0, none⟩), .string k] wr fun e w' => e = .returned (.bool (lookR R k).isSome) ∧ One w D p mst (dropR R k) w' ∧ Stay D wr w' := by
  obtain ⟨T, h1, h2, h3, h4⟩ := h
  refine (h1.Drop hk).mono ?_
  rintro e w' ⟨rfl, h', hk'⟩
  exact ⟨rfl, one_kl h2 h3 h4 h' hk'⟩
theorem One.clear (h : One w D p mst R wr) : Calls Try.prog 29 #[.pointer (some ⟨p, 0, none⟩)] wr fun e w' => e = .returned (.tuple #[]) ∧ One w D p mst [] w' ∧ Stay D wr w' := by
  obtain ⟨T, h1, h2, h3, h4⟩ := h
  refine h1.clear.mono ?_
  rintro e w' ⟨rfl, T', h', hk'⟩
  exact ⟨rfl, one_kl h2 h3 h4 h' hk'⟩
theorem One.look (h : One w D p mst R wr) {k : ByteArray} (hk : k.size ≤ maxLen) : Calls Try.prog 25 #[.pointer (some ⟨p, 0, none⟩), .string k] wr fun e w' => e = .returned (.tuple #[.int .i64 ((lookR R k).getD (0 : Int)), .bool (lookR R k).isSome]) ∧ One w D p mst R w' ∧ Stay D wr w' ∧ Below wr.heap.size wr w' := by
  have H := h
  obtain ⟨T, h1, h2, h3, h4⟩ := h
  refine (h1.look hk).mono ?_
  rintro e w' ⟨rfl, hb⟩
  exact ⟨rfl, (H.next hb).1, (H.next hb).2, hb⟩
theorem One.len (h : One w D p mst R wr) : Calls Try.prog 30 #[.pointer (some ⟨p, 0, none⟩)] wr fun e w' => e = .returned (.int .i64 (R.length : Int)) ∧ wr = w' := by
  obtain ⟨T, h1, h2, h3, h4⟩ := h
  exact h1.len
theorem One.seq (h : One w D p mst R wr) (hl : R.length ≤ 1099511627776) (m : Nat) (hm : 1 ≤ m) (bx : Nat) (hbx : wr.cell? ⟨bx, 0, none⟩ = some (.pointer (some ⟨p, 0, none⟩))) :
    SeqO Fence.wide m Try.prog 51 #[] #[.pointer (some ⟨bx, 0, none⟩)] (fun x : ByteArray × Int => #[.string x.1, .int .i64 x.2]) (fun xs => xs = R) (fun pre => pre <+: R) (fun pre x => pre ++ [x] <+: R) (fun _ => False) none wr := by
  obtain ⟨T, h1, h2, h3, h4⟩ := h
  exact h1.seq hl m hm bx hbx
/-- The other list is among the law's own. -/
theorem Two.one (h : Two w D p mst R q nst S wr) : ∃ U : Nat → Prop, LR wr q nst S U ∧ (∀ k, U k → w.heap.size ≤ k) ∧ One w (fun k => D k ∨ U k) p mst R wr ∧ ∀ k, D k → ¬ U k := by
  obtain ⟨T, U, h1, h2, h3, h4, h5, h6, h7⟩ := h
  exact ⟨U, h2, h5, ⟨T, h1, h3, h4, fun k hk => hk.elim (fun hd => ⟨(h7 k hd).1, (h7 k hd).2.1⟩) fun hu => ⟨h2.tl k hu, fun ht => h6 k ht hu⟩⟩, fun k hd => (h7 k hd).2.2⟩
theorem LR.stay {U : Nat → Prop} (h : LR wr q nst S U) (hs : Stay U wr w') (hz : wr.heap.size ≤ w'.heap.size) : LR w' q nst S U := by
  obtain ⟨m, b, A, B, L, h, e, hl⟩ := h
  exact ⟨m, b, A, B, L, ⟨(hs _ h.tp).trans h.obj, h.mp.same (hs _ h.tm), fun x hx => (hs _ (h.tn x hx)).trans (h.nds x hx), h.ring, h.sub, h.tp, h.tm, h.tn, fun k hk => Nat.lt_of_lt_of_le (h.tl k hk) hz, h.key⟩, e, hl⟩
theorem One.two {U : Nat → Prop} (h : One w (fun k => D k ∨ U k) p mst R w') (h2 : LR w' q nst S U) (h3 : ∀ k, U k → w.heap.size ≤ k) (h4 : ∀ k, D k → ¬ U k) : Two w D p mst R q nst S w' := by
  obtain ⟨T, h1, h5, h6, h7⟩ := h
  exact ⟨T, U, h1, h2, h5, h6, h3, fun k ht hu => (h7 k (Or.inr hu)).2 ht, fun k hd => ⟨(h7 k (Or.inl hd)).1, (h7 k (Or.inl hd)).2, h4 k hd⟩⟩
theorem Two.swap (h : Two w D p mst R q nst S wr) : Two w D q nst S p mst R wr := by
  obtain ⟨T, U, h1, h2, h3, h4, h5, h6, h7⟩ := h
  exact ⟨U, T, h2, h1, h3, h5, h4, fun k hu ht => h6 k ht hu, fun k hd => ⟨(h7 k hd).1, (h7 k hd).2.2, (h7 k hd).2.1⟩⟩
theorem Two.bel (h : Two w D p mst R q nst S wr) : Below w.heap.size w wr := by
  obtain ⟨T, U, h1, h2, h3, _⟩ := h
  exact h3
theorem One.sizes (h : One w D p mst R wr) (hs : Stay D wr w') : ∀ k, D k → k < w'.heap.size := by
  obtain ⟨T, h1, h2, h3, h4⟩ := h
  intro k hd
  have h5 := hs k hd
  rw [Array.getElem?_eq_getElem (h4 k hd).1] at h5
  exact (Array.getElem?_eq_some_iff.1 h5).1
/-- A call on the first list, over One, is one over Two. -/
theorem Two.call {F : Nat} {args : Array Value} {V : Value} {R2 : Rw} (h : Two w D p mst R q nst S wr)
    (hc : ∀ D', One w D' p mst R wr → Calls Try.prog F args wr fun e w' => e = .returned V ∧ One w D' p mst R2 w' ∧ Stay D' wr w') :
    Calls Try.prog F args wr fun e w' => e = .returned V ∧ Two w D p mst R2 q nst S w' ∧ Stay D wr w' := by
  obtain ⟨U, h1, h2, h3, h4⟩ := h.one
  refine (hc _ h3).mono ?_
  rintro e w' ⟨rfl, h5, h6⟩
  have hsz := h3.sizes h6
  refine ⟨rfl, h5.two ?_ h2 h4, fun k hd => h6 k (Or.inl hd)⟩
  obtain ⟨m, b, A, B, L, h, e, hl⟩ := h1
  exact ⟨m, b, A, B, L, ⟨(h6 _ (Or.inr h.tp)).trans h.obj, h.mp.same (h6 _ (Or.inr h.tm)), fun x hx => (h6 _ (Or.inr (h.tn x hx))).trans (h.nds x hx), h.ring, h.sub, h.tp, h.tm, h.tn, fun k hk => hsz k (Or.inr hk), h.key⟩, e, hl⟩
theorem Two.next (h : Two w D p mst R q nst S wr) (hb : Below wr.heap.size wr w') : Two w D p mst R q nst S w' ∧ Stay D wr w' := by
  obtain ⟨T, U, h1, h2, h3, h4, h5, h6, h7⟩ := h
  exact ⟨⟨T, U, h1.next hb, h2.next hb, h3.trans (hb.mono h3.size), h4, h5, h6, fun k hd => ⟨Nat.lt_of_lt_of_le (h7 k hd).1 hb.size, (h7 k hd).2⟩⟩, fun k hd => hb.block k (h7 k hd).1⟩
theorem Two.more (h : Two w D p mst R q nst S wr) (hb : Below wr.heap.size wr w') (hD : ∀ k, D' k → D k ∨ (wr.heap.size ≤ k ∧ k < w'.heap.size)) : Two w D' p mst R q nst S w' := by
  obtain ⟨T, U, h1, h2, h3, h4, h5, h6, h7⟩ := h
  exact ⟨T, U, h1.next hb, h2.next hb, h3.trans (hb.mono h3.size), h4, h5, h6, fun k hk => (hD k hk).elim (fun hd => ⟨Nat.lt_of_lt_of_le (h7 k hd).1 hb.size, (h7 k hd).2⟩) fun hn => ⟨hn.2, fun ht => absurd (h1.tl k ht) (Nat.not_lt.2 hn.1), fun ht => absurd (h2.tl k ht) (Nat.not_lt.2 hn.1)⟩⟩
theorem Two.second (h : One w D p mst R wr) (most : Int) : Calls Try.prog 18 #[.int .i64 most] wr fun e w' => ∃ q, e = .returned (.pointer (some ⟨q, 0, none⟩)) ∧ Two w D p mst R q most.toNat [] w' ∧ Below wr.heap.size wr w' := by
  obtain ⟨T, h1, h2, h3, h4⟩ := h
  refine (New_any wr most).mono ?_
  rintro e w' ⟨q, U, rfl, h, hb', hU⟩
  exact ⟨q, rfl, ⟨T, U, h1.next hb', h, h2.trans (hb'.mono h2.size), h3, fun k hk => Nat.le_trans h2.size (hU k hk), fun k ht hu => absurd (h1.tl k ht) (Nat.not_lt.2 (hU k hu)), fun k hd => ⟨Nat.lt_of_lt_of_le (h4 k hd).1 hb'.size, (h4 k hd).2, fun hu => absurd (h4 k hd).1 (Nat.not_lt.2 (hU k hu))⟩⟩, hb'⟩
end
end Go.Proofs.Ytabhapohkohbmaa
