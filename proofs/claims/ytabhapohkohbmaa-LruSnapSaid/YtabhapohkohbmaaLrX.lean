/-
  A list whose map stays the same block: Put, Drop; what a loop's own blocks leave of it. Conditions: as each theorem names them.
-/
import Derived.Test.YtabhapohkohbmaaLrU
import Derived.Test.YtabhapohkohbmaaPick
namespace Go.Proofs.Ytabhapohkohbmaa
open Go.RowKit Go.Maps
set_option linter.unusedVariables false
set_option linter.unusedSimpArgs false

/-- The list with the map m. -/
def LRM (w : World) (p mst m : Nat) (R : Rw) (T : Nat → Prop) : Prop := ∃ b A B L, LrX w p mst m b A B (entL L) L L T ∧ kv L = R ∧ L.length ≤ mst
section
variable {w w' : World} {p mst m b : Nat} {A B : Nat → Nat} {E : List (Value × Value)} {M L P Q : List Nd} {x : Nd} {T : Nat → Prop} {R : Rw}
theorem LR.lrm (h : LR w p mst R T) : ∃ m, LRM w p mst m R T := by
  obtain ⟨m, h⟩ := h
  exact ⟨m, h⟩
theorem LRM.lr (h : LRM w p mst m R T) : LR w p mst R T := ⟨m, h⟩
theorem LRM.next (h : LRM w p mst m R T) (hb : Below w.heap.size w w') : LRM w' p mst m R T := by
  obtain ⟨b, A, B, L, h, e, hl⟩ := h
  exact ⟨b, A, B, L, h.next hb, e, hl⟩
theorem LRM.other (h : LRM w p mst m R T) {S S' : Nat → Prop} (hk : Kl S S' w w') (hd : ∀ k, T k → ¬ S k) : LRM w' p mst m R T := by
  obtain ⟨b, A, B, L, h, e, hl⟩ := h
  exact ⟨b, A, B, L, h.other hk hd, e, hl⟩
theorem LRM.tl (h : LRM w p mst m R T) : ∀ k, T k → k < w.heap.size := h.lr.tl
theorem LRM.tm (h : LRM w p mst m R T) : T m := by
  obtain ⟨b, A, B, L, h, e, hl⟩ := h
  exact h.tm
/-- What a range's own blocks turn is not the list's. -/
theorem LRM.kept {n : Nat} (h : LRM w p mst m R T) (hm : m < n) {row : Option Nat} (hg : w.grownBy w' row) (hr : ∀ r, row = some r → n ≤ r ∧ ∃ o : Obj, w.heap[r]? = some o ∧ o.isCells = false) : LRM w' p mst m R T := by
  obtain ⟨b, A, B, L, h, e, hl⟩ := h
  have key : ∀ {g : Nat} {t : TypeId} {cs : Array Value}, Lies w g t cs → Lies w' g t cs := fun {g t cs} hl => hl.grown hg fun e => by
    obtain ⟨_, o, ho, hc⟩ := hr g e.symm
    rw [show w.heap[g]? = _ from hl] at ho
    cases ho
    cases hc
  exact ⟨b, A, B, L, ⟨key h.obj, h.mp.grown hg (fun e => by have := (hr m e.symm).1; omega), fun x hx => key (h.nds x hx), h.ring, h.sub, h.tp, h.tm, h.tn, fun k hk => Nat.lt_of_lt_of_le (h.tl k hk) hg.size, h.key⟩, e, hl⟩
theorem LRM.Drop (h : LRM w p mst m R T) {k : ByteArray} (hk : k.size ≤ maxLen) : Calls Try.prog 27 #[.pointer (some ⟨p, 0, none⟩), .string k] w fun e w' => e = .returned (.bool (lookR R k).isSome) ∧ LRM w' p mst m (dropR R k) T ∧ Kl T T w w' := by
  obtain ⟨b, A, B, L, h, rfl, hl⟩ := h
  rcases by_key h.unlike k with hn | ⟨P, x, Q, rfl, rfl, hn⟩
  · rw [lookR_no hn, dropR_no hn]
    refine (h.Drop_no hk hn).mono ?_
    rintro e w' ⟨rfl, rfl⟩
    exact ⟨rfl, ⟨b, A, B, L, h, rfl, hl⟩, .refl _ _⟩
  · rw [lookR_yes hn, dropR_yes hn]
    refine h.Drop_yes.mono ?_
    rintro e w' ⟨rfl, A', B', h', k'⟩
    refine ⟨rfl, ⟨b, A', B', _, h', rfl, ?_⟩, k'⟩
    simp only [List.length_append, List.length_cons] at hl ⊢; omega
set_option maxRecDepth 100000 in
set_option maxHeartbeats 8000000 in
theorem LRM.put (h : LRM w p mst m R T) {k : ByteArray} (hk : k.size ≤ 281474976710656) (hlen : R.length < 1099511627776) (hm : mst < 9223372036854775808) (v : Int) : Calls Try.prog 21 #[.pointer (some ⟨p, 0, none⟩), .string k, .int .i64 v] w fun e w' =>
    e = .returned (.tuple #[.string (putR mst R k v).2.1, .bool (putR mst R k v).2.2.1, .int .i64 ((putR mst R k v).2.2.2 : Int)]) ∧ ∃ T', LRM w' p mst m (putR mst R k v).1 T' ∧ Kl T T' w w' := by
  obtain ⟨b, A, B, L, h, rfl, hl⟩ := h
  have hM := Lib.hid h.made
  obtain ⟨c0, c1, c2, c3⟩ := h.cells
  have hlL : L.length < 1099511627776 := by simpa [kv] using hlen
  have hP := Lib.hid (h.putA hk (Nat.lt_of_lt_of_le hlL (by decide)) v)
  have H := Lib.hid h
  have HL := Lib.hid hl
  unfold putR
  by_cases h0 : mst = 0
  · subst h0
    rw [if_pos rfl]
    clear h hk hlL hlen hl hP
    go_enter Try.func21, Try.ntmps21
    go_wp2_with (go_at_call 44; refine hM.out.mono ?_; rintro e w1 ⟨rfl, rfl⟩)
    exact bodyPost_ret (v := .tuple #[.string ⟨#[]⟩, .bool false, .int .i64 10]) (by simp [results, Try.results21, go_sem]) rfl ⟨rfl, T, ⟨b, A, B, L, H.out, rfl, HL.out⟩, .refl _ _⟩
  · rw [if_neg h0]
    have hi0 : (mst : Int) ≠ 0 := by omega
    clear h hk hlL hlen hl
    by_cases hc : (addR (kv L) k v).length ≤ mst
    · rw [if_pos hc]
      go_enter Try.func21, Try.ntmps21
      go_upto_region 6 with (first | (go_at_call 44; refine hM.out.mono ?_; rintro e w1 ⟨rfl, rfl⟩) | (go_at_call 45; refine hP.out.mono ?_; rintro e w2 ⟨rfl, A2, B2, L2, T2, h2, e2, n2, k2⟩; have H2 := Lib.hid h2; have E2 := Lib.hid e2; have N2 := Lib.hid n2; have K2 := Lib.hid k2; clear h2 e2 n2 k2))
      obtain ⟨d0, d1, d2, d3⟩ := H2.out.cells
      have hln := (H2.out.mp.same (w' := w2.drew) rfl).len Try.underlying79 3
      rw [show (entL L2).length = L2.length by simp [entL]] at hln
      have hle : L2.length ≤ mst := by rw [← E2.out] at hc; simpa [kv] using hc
      have hle' : (L2.length : Int) ≤ (mst : Int) := by omega
      have HC := Lib.hid hle
      clear hc hle c0 c1 c2 c3
      go_region
      all_goals
        go_wp2
        exact bodyPost_ret (v := .tuple #[.string ⟨#[]⟩, .bool false, .int .i64 0]) (by simp [results, Try.results21, go_sem]) rfl ⟨rfl, T2, ⟨b, A2, B2, L2, H2.out.next (Below.refl _ _).drew, E2.out, HC.out⟩, K2.out.trans (.of_below (Below.refl _ _).drew)⟩
    · rw [if_neg hc]
      go_enter Try.func21, Try.ntmps21
      go_upto_region 6 with (first | (go_at_call 44; refine hM.out.mono ?_; rintro e w1 ⟨rfl, rfl⟩) | (go_at_call 45; refine hP.out.mono ?_; rintro e w2 ⟨rfl, A2, B2, L2, T2, h2, e2, n2, k2⟩; have H2 := Lib.hid h2; have E2 := Lib.hid e2; have N2 := Lib.hid n2; have K2 := Lib.hid k2; clear h2 e2 n2 k2))
      obtain ⟨P, x, hPx⟩ : ∃ P x, L2 = P ++ [x] := ⟨_, _, (List.dropLast_concat_getLast N2.out).symm⟩
      subst hPx
      have h2 := H2.out.next (w' := w2.drew) (Below.refl _ _).drew
      obtain ⟨d0, d1, d2, d3⟩ := h2.cells
      have hab : A2 b = x.g := by
        have := h2.ring.ch
        rw [List.map_append] at this
        exact (ch_split.1 this).2.2
      have b2 : w2.drew.cell? ⟨b, 2, none⟩ = some (.pointer (some ⟨x.g, 0, none⟩)) := by
        have := (h2.nds (bgn b) List.mem_cons_self).cell 2
        simpa [ndC, bgn, hab] using this
      have hln := h2.mp.len Try.underlying79 3
      rw [show (entL (P ++ [x])).length = (P ++ [x]).length by simp [entL]] at hln
      have hle : ¬ (P ++ [x]).length ≤ mst := by rw [← E2.out] at hc; simpa [kv] using hc
      have hle' : ¬ ((P.length : Int) + 1 ≤ (mst : Int)) := by simp at hle; omega
      have hfull : P.length ≤ mst := by
        have h1 := congrArg List.length E2.out
        have h2 : (dropR (kv L) k).length ≤ L.length := by
          unfold dropR
          refine Nat.le_trans (List.length_filter_le _ _) ?_
          simp [kv]
        have h3 := HL.out
        simp [kv, addR] at h1 h2
        omega
      have HF := Lib.hid hfull
      have hD := Lib.hid h2.drop
      clear hc hle hfull h2 hab c0 c1 c2 c3
      go_region
      all_goals
        go_wp2_with (go_at_call 46; refine hD.out.mono ?_; rintro e w3 ⟨rfl, A3, B3, h3, k3, j, x0, _⟩; have H3 := Lib.hid h3; have K3 := Lib.hid k3; clear h3 k3)
        rw [← E2.out]
        have e1 : kv (P ++ [x]) = kv P ++ [(x.k, x.v)] := by simp [kv]
        rw [e1, lastR_snoc, List.dropLast_concat]
        have h4 := H3.out
        rw [List.append_nil] at h4
        exact bodyPost_ret (v := .tuple #[.string x.k, .bool true, .int .i64 0]) (by simp [results, Try.results21, go_sem]) rfl ⟨rfl, T2, ⟨b, A3, B3, P, h4, rfl, HF.out⟩, (K2.out.trans (.of_below (Below.refl _ _).drew)).trans K3.out⟩
end
end Go.Proofs.Ytabhapohkohbmaa
