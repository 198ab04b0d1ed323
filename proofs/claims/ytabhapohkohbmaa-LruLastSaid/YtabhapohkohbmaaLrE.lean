/-
  A list as a row of keys with their values: New, Put, Get, Look, Drop, Len, Clear. Conditions: keys no longer than 2^48, fewer than 2^40 of them.
-/
import Derived.Test.YtabhapohkohbmaaLrD
namespace Go.Proofs.Ytabhapohkohbmaa
open Go.RowKit Go.Maps
set_option linter.unusedVariables false
set_option linter.unusedSimpArgs false

abbrev Rw := List (ByteArray × Int)
def kv (L : List Nd) : Rw := L.map fun x => (x.k, x.v)
def dropR (R : Rw) (k : ByteArray) : Rw := R.filter fun x => decide (x.1 ≠ k)
def lookR : Rw → ByteArray → Option Int
  | [], _ => none
  | x :: r, k => if x.1 = k then some x.2 else lookR r k
def getR (R : Rw) (k : ByteArray) : Rw := match lookR R k with
  | some v => (k, v) :: dropR R k
  | none => R
def addR (R : Rw) (k : ByteArray) (v : Int) : Rw := (k, v) :: dropR R k
def lastR : Rw → ByteArray
  | [] => ⟨#[]⟩
  | [x] => x.1
  | _ :: y :: r => lastR (y :: r)
/-- What Put leaves, and what it answers. -/
def putR (mst : Nat) (R : Rw) (k : ByteArray) (v : Int) : Rw × ByteArray × Bool × Nat :=
  if mst = 0 then (R, ⟨#[]⟩, false, 10) else if (addR R k v).length ≤ mst then (addR R k v, ⟨#[]⟩, false, 0) else ((addR R k v).dropLast, lastR (addR R k v), true, 0)
section
variable {w w' : World} {p mst m b : Nat} {A B : Nat → Nat} {E : List (Value × Value)} {M L P Q : List Nd} {x : Nd} {T : Nat → Prop} {R : Rw}
theorem LrX.unlike (h : LrX w p mst m b A B (entL L) M L T) : L.Pairwise fun x y => x.k ≠ y.k := by
  have := h.mp.apart
  unfold entL at this
  rw [List.pairwise_map] at this
  exact this.imp fun {a c} hne e => hne (by rw [e])
theorem by_key (hu : L.Pairwise fun x y => x.k ≠ y.k) (k : ByteArray) : (∀ x ∈ L, x.k ≠ k) ∨ ∃ P x Q, L = P ++ x :: Q ∧ x.k = k ∧ (∀ y ∈ P ++ Q, y.k ≠ k) := by
  by_cases h : ∃ x ∈ L, x.k = k
  · obtain ⟨x, hx, e⟩ := h
    obtain ⟨P, Q, rfl⟩ := List.append_of_mem hx
    refine Or.inr ⟨P, x, Q, rfl, e, ?_⟩
    rw [List.pairwise_append, List.pairwise_cons] at hu
    intro y hy
    rcases List.mem_append.1 hy with hy | hy
    · rw [← e]; exact hu.2.2 y hy x List.mem_cons_self
    · rw [← e]; exact (hu.2.1.1 y hy).symm
  · exact Or.inl fun x hx e => h ⟨x, hx, e⟩
theorem dropR_no {k : ByteArray} (hn : ∀ y ∈ L, y.k ≠ k) : dropR (kv L) k = kv L := by
  unfold dropR
  rw [List.filter_eq_self]
  intro z hz
  obtain ⟨y, hy, rfl⟩ := List.mem_map.1 hz
  exact decide_eq_true (hn y hy)
theorem dropR_yes (hn : ∀ y ∈ P ++ Q, y.k ≠ x.k) : dropR (kv (P ++ x :: Q)) x.k = kv (P ++ Q) := by
  have h1 := dropR_no (L := P) (k := x.k) fun y hy => hn y (List.mem_append.2 (Or.inl hy))
  have h2 := dropR_no (L := Q) (k := x.k) fun y hy => hn y (List.mem_append.2 (Or.inr hy))
  unfold dropR kv at *
  rw [List.map_append, List.map_cons, List.filter_append, h1, List.filter_cons_of_neg (by simp), h2, List.map_append]
theorem lookR_no {k : ByteArray} (hn : ∀ y ∈ L, y.k ≠ k) : lookR (kv L) k = none := by
  induction L with
  | nil => rfl
  | cons x r ih =>
    show (if x.k = k then _ else _) = _
    rw [if_neg (hn x List.mem_cons_self)]
    exact ih fun y hy => hn y (List.mem_cons_of_mem _ hy)
theorem lookR_yes (hn : ∀ y ∈ P ++ Q, y.k ≠ x.k) : lookR (kv (P ++ x :: Q)) x.k = some x.v := by
  induction P with
  | nil => exact if_pos rfl
  | cons z r ih =>
    show (if z.k = x.k then _ else _) = _
    rw [if_neg (hn z (by simp))]
    exact ih fun y hy => hn y (List.mem_cons_of_mem _ hy)
theorem lastR_snoc (P : Rw) (x : ByteArray × Int) : lastR (P ++ [x]) = x.1 := by
  induction P with
  | nil => rfl
  | cons z r ih => cases r with
    | nil => rfl
    | cons y r => exact ih
/-- A list of at most mst keys: R, in order. All that it has lies in T. -/
def LR (w : World) (p mst : Nat) (R : Rw) (T : Nat → Prop) : Prop := ∃ m b A B L, LrX w p mst m b A B (entL L) L L T ∧ kv L = R ∧ L.length ≤ mst
theorem LR.next (h : LR w p mst R T) (hb : Below w.heap.size w w') : LR w' p mst R T := by
  obtain ⟨m, b, A, B, L, h, e, hl⟩ := h
  exact ⟨m, b, A, B, L, h.next hb, e, hl⟩
theorem LR.other (h : LR w p mst R T) {S S' : Nat → Prop} (hk : Kl S S' w w') (hd : ∀ k, T k → ¬ S k) : LR w' p mst R T := by
  obtain ⟨m, b, A, B, L, h, e, hl⟩ := h
  exact ⟨m, b, A, B, L, h.other hk hd, e, hl⟩
theorem LR.tl (h : LR w p mst R T) : ∀ k, T k → k < w.heap.size := by
  obtain ⟨m, b, A, B, L, h, e, hl⟩ := h
  exact h.tl
theorem LR.le (h : LR w p mst R T) : R.length ≤ mst := by
  obtain ⟨m, b, A, B, L, h, rfl, hl⟩ := h
  simpa [kv] using hl
theorem LR.unlike (h : LR w p mst R T) : R.Pairwise fun x y => x.1 ≠ y.1 := by
  obtain ⟨m, b, A, B, L, h, rfl, hl⟩ := h
  unfold kv
  rw [List.pairwise_map]
  exact h.unlike
theorem LR.look (h : LR w p mst R T) {k : ByteArray} (hk : k.size ≤ maxLen) : Calls Try.prog 25 #[.pointer (some ⟨p, 0, none⟩), .string k] w fun e w' => e = .returned (.tuple #[.int .i64 ((lookR R k).getD (0 : Int)), .bool (lookR R k).isSome]) ∧ Below w.heap.size w w' := by
  obtain ⟨m, b, A, B, L, h, rfl, hl⟩ := h
  rcases by_key h.unlike k with hn | ⟨P, x, Q, rfl, rfl, hn⟩
  · rw [lookR_no hn]
    exact h.look_no hk hn
  · rw [lookR_yes hn]
    exact h.look_yes (by simp)
theorem LR.get (h : LR w p mst R T) {k : ByteArray} (hk : k.size ≤ maxLen) : Calls Try.prog 23 #[.pointer (some ⟨p, 0, none⟩), .string k] w fun e w' => e = .returned (.tuple #[.int .i64 ((lookR R k).getD (0 : Int)), .bool (lookR R k).isSome]) ∧ LR w' p mst (getR R k) T ∧ Kl T T w w' := by
  obtain ⟨m, b, A, B, L, h, rfl, hl⟩ := h
  rcases by_key h.unlike k with hn | ⟨P, x, Q, rfl, rfl, hn⟩
  · unfold getR
    rw [lookR_no hn]
    refine (h.get_no hk hn).mono ?_
    rintro e w' ⟨rfl, hb⟩
    exact ⟨rfl, ⟨m, b, A, B, L, h.next hb, rfl, hl⟩, .of_below hb⟩
  · unfold getR
    rw [lookR_yes hn]
    refine h.get_yes.mono ?_
    rintro e w' ⟨rfl, A', B', h', k'⟩
    refine ⟨rfl, ⟨m, b, A', B', _, h', ?_, ?_⟩, k'⟩
    · simp only [dropR_yes hn]; rfl
    · simp only [List.length_append, List.length_cons] at hl ⊢; omega
theorem LR.Drop (h : LR w p mst R T) {k : ByteArray} (hk : k.size ≤ maxLen) : Calls Try.prog 27 #[.pointer (some ⟨p, 0, none⟩), .string k] w fun e w' => e = .returned (.bool (lookR R k).isSome) ∧ LR w' p mst (dropR R k) T ∧ Kl T T w w' := by
  obtain ⟨m, b, A, B, L, h, rfl, hl⟩ := h
  rcases by_key h.unlike k with hn | ⟨P, x, Q, rfl, rfl, hn⟩
  · rw [lookR_no hn, dropR_no hn]
    refine (h.Drop_no hk hn).mono ?_
    rintro e w' ⟨rfl, rfl⟩
    exact ⟨rfl, ⟨m, b, A, B, L, h, rfl, hl⟩, .refl _ _⟩
  · rw [lookR_yes hn, dropR_yes hn]
    refine h.Drop_yes.mono ?_
    rintro e w' ⟨rfl, A', B', h', k'⟩
    refine ⟨rfl, ⟨m, b, A', B', _, h', rfl, ?_⟩, k'⟩
    simp only [List.length_append, List.length_cons] at hl ⊢; omega
theorem LR.len (h : LR w p mst R T) : Calls Try.prog 30 #[.pointer (some ⟨p, 0, none⟩)] w fun e w' => e = .returned (.int .i64 (R.length : Int)) ∧ w = w' := by
  obtain ⟨m, b, A, B, L, h, rfl, hl⟩ := h
  have := h.len
  simpa [kv] using this
/-- put, whatever the key. -/
theorem LrX.putA (h : LrX w p mst m b A B (entL L) L L T) {k : ByteArray} (hk : k.size ≤ 281474976710656) (hlen : L.length < maxLen) (v : Int) : Calls Try.prog 45 #[.pointer (some ⟨p, 0, none⟩), .string k, .int .i64 v] w fun e w' => e = .returned (.tuple #[]) ∧ ∃ A' B' L' T', LrX w' p mst m b A' B' (entL L') L' L' T' ∧ kv L' = addR (kv L) k v ∧ L' ≠ [] ∧ Kl T T' w w' := by
  rcases by_key h.unlike k with hn | ⟨P, x, Q, rfl, rfl, hn⟩
  · refine (h.put_new hk hn hlen v).mono ?_
    rintro e w' ⟨rfl, g, A', B', T', h', k'⟩
    refine ⟨rfl, A', B', _, T', h', ?_, by simp, k'⟩
    unfold addR
    rw [dropR_no hn]
    rfl
  · refine (h.put_old v).mono ?_
    rintro e w' ⟨rfl, A', B', h', k'⟩
    refine ⟨rfl, A', B', _, T, h', ?_, by simp, k'⟩
    unfold addR
    rw [dropR_yes hn]
    rfl
theorem LrX.room (h : LrX w p mst m b A B (entL L) M L T) : L.length ≤ maxLen := by
  have := h.mp.room
  simpa [entL] using this
theorem put_nil (w : World) (k : ByteArray) (v : Int) : Calls Try.prog 21 #[.pointer none, .string k, .int .i64 v] w fun e w' => e = .returned (.tuple #[.string ⟨#[]⟩, .bool false, .int .i64 1]) ∧ w = w' := by
  go_enter Try.func21, Try.ntmps21
  go_wp2_with (go_at_call 44; refine (made_no _).mono ?_; rintro e w1 ⟨rfl, rfl⟩)
  exact bodyPost_ret (v := .tuple #[.string ⟨#[]⟩, .bool false, .int .i64 1]) (by simp [results, Try.results21, go_sem]) rfl ⟨rfl, rfl⟩
set_option maxRecDepth 100000 in
set_option maxHeartbeats 8000000 in
theorem LR.put (h : LR w p mst R T) {k : ByteArray} (hk : k.size ≤ 281474976710656) (hlen : R.length < 1099511627776) (hm : mst < 9223372036854775808) (v : Int) : Calls Try.prog 21 #[.pointer (some ⟨p, 0, none⟩), .string k, .int .i64 v] w fun e w' =>
    e = .returned (.tuple #[.string (putR mst R k v).2.1, .bool (putR mst R k v).2.2.1, .int .i64 ((putR mst R k v).2.2.2 : Int)]) ∧ ∃ T', LR w' p mst (putR mst R k v).1 T' ∧ Kl T T' w w' := by
  obtain ⟨m, b, A, B, L, h, rfl, hl⟩ := h
  have hM := Lib.hid h.made
  obtain ⟨c0, c1, c2, c3⟩ := h.cells
  have hlL : L.length < 1099511627776 := by simpa [kv] using hlen
  have hP := Lib.hid (h.putA hk (Nat.lt_of_lt_of_le hlL (by decide)) v)
  have H := Lib.hid h
  have HL := Lib.hid hl
  unfold putR
  by_cases h0 : mst = 0
  · subst h0
    rw [if_pos rfl]
    clear h hk hlL hlen hl hP
    go_enter Try.func21, Try.ntmps21
    go_wp2_with (go_at_call 44; refine hM.out.mono ?_; rintro e w1 ⟨rfl, rfl⟩)
    exact bodyPost_ret (v := .tuple #[.string ⟨#[]⟩, .bool false, .int .i64 10]) (by simp [results, Try.results21, go_sem]) rfl ⟨rfl, T, ⟨m, b, A, B, L, H.out, rfl, HL.out⟩, .refl _ _⟩
  · rw [if_neg h0]
    have hi0 : (mst : Int) ≠ 0 := by omega
    clear h hk hlL hlen hl
    by_cases hc : (addR (kv L) k v).length ≤ mst
    · rw [if_pos hc]
      go_enter Try.func21, Try.ntmps21
      go_upto_region 6 with (first | (go_at_call 44; refine hM.out.mono ?_; rintro e w1 ⟨rfl, rfl⟩) | (go_at_call 45; refine hP.out.mono ?_; rintro e w2 ⟨rfl, A2, B2, L2, T2, h2, e2, n2, k2⟩; have H2 := Lib.hid h2; have E2 := Lib.hid e2; have N2 := Lib.hid n2; have K2 := Lib.hid k2; clear h2 e2 n2 k2))
      obtain ⟨d0, d1, d2, d3⟩ := H2.out.cells
      have hln := (H2.out.mp.same (w' := w2.drew) rfl).len Try.underlying79 3
      rw [show (entL L2).length = L2.length by simp [entL]] at hln
      have hle : L2.length ≤ mst := by rw [← E2.out] at hc; simpa [kv] using hc
      have hle' : (L2.length : Int) ≤ (mst : Int) := by omega
      have HC := Lib.hid hle
      clear hc hle c0 c1 c2 c3
      go_region
      all_goals
        go_wp2
        exact bodyPost_ret (v := .tuple #[.string ⟨#[]⟩, .bool false, .int .i64 0]) (by simp [results, Try.results21, go_sem]) rfl ⟨rfl, T2, ⟨m, b, A2, B2, L2, H2.out.next (Below.refl _ _).drew, E2.out, HC.out⟩, K2.out.trans (.of_below (Below.refl _ _).drew)⟩
    · rw [if_neg hc]
      go_enter Try.func21, Try.ntmps21
      go_upto_region 6 with (first | (go_at_call 44; refine hM.out.mono ?_; rintro e w1 ⟨rfl, rfl⟩) | (go_at_call 45; refine hP.out.mono ?_; rintro e w2 ⟨rfl, A2, B2, L2, T2, h2, e2, n2, k2⟩; have H2 := Lib.hid h2; have E2 := Lib.hid e2; have N2 := Lib.hid n2; have K2 := Lib.hid k2; clear h2 e2 n2 k2))
      obtain ⟨P, x, hPx⟩ : ∃ P x, L2 = P ++ [x] := ⟨_, _, (List.dropLast_concat_getLast N2.out).symm⟩
      subst hPx
      have h2 := H2.out.next (w' := w2.drew) (Below.refl _ _).drew
      obtain ⟨d0, d1, d2, d3⟩ := h2.cells
      have hab : A2 b = x.g := by
        have := h2.ring.ch
        rw [List.map_append] at this
        exact (ch_split.1 this).2.2
      have b2 : w2.drew.cell? ⟨b, 2, none⟩ = some (.pointer (some ⟨x.g, 0, none⟩)) := by
        have := (h2.nds (bgn b) List.mem_cons_self).cell 2
        simpa [ndC, bgn, hab] using this
      have hln := h2.mp.len Try.underlying79 3
      rw [show (entL (P ++ [x])).length = (P ++ [x]).length by simp [entL]] at hln
      have hle : ¬ (P ++ [x]).length ≤ mst := by rw [← E2.out] at hc; simpa [kv] using hc
      have hle' : ¬ ((P.length : Int) + 1 ≤ (mst : Int)) := by simp at hle; omega
      have hfull : P.length ≤ mst := by
        have h1 := congrArg List.length E2.out
        have h2 : (dropR (kv L) k).length ≤ L.length := by
          unfold dropR
          refine Nat.le_trans (List.length_filter_le _ _) ?_
          simp [kv]
        have h3 := HL.out
        simp [kv, addR] at h1 h2
        omega
      have HF := Lib.hid hfull
      have hD := Lib.hid h2.drop
      clear hc hle hfull h2 hab c0 c1 c2 c3
      go_region
      all_goals
        go_wp2_with (go_at_call 46; refine hD.out.mono ?_; rintro e w3 ⟨rfl, A3, B3, h3, k3, j, x0, _⟩; have H3 := Lib.hid h3; have K3 := Lib.hid k3; clear h3 k3)
        rw [← E2.out]
        have e1 : kv (P ++ [x]) = kv P ++ [(x.k, x.v)] := by simp [kv]
        rw [e1, lastR_snoc, List.dropLast_concat]
        have h4 := H3.out
        rw [List.append_nil] at h4
        exact bodyPost_ret (v := .tuple #[.string x.k, .bool true, .int .i64 0]) (by simp [results, Try.results21, go_sem]) rfl ⟨rfl, T2, ⟨m, b, A3, B3, P, h4, rfl, HF.out⟩, (K2.out.trans (.of_below (Below.refl _ _).drew)).trans K3.out⟩
end
end Go.Proofs.Ytabhapohkohbmaa
