/-
  What the document's own packer of names has, and what its names come to where they are read: mathematics, memory. Conditions: as each theorem names them.
-/
import Derived.Test.YtlpgoeigcccmhaaUpRu
import Derived.Test.YtlpgoeigcccmhaaOcRefW
import Derived.Test.YtlpgoeigcccmhaaPkKit
namespace Go.Proofs.Ytlpgoeigcccmhaa
open Go.RowKit
set_option linter.unusedVariables false

/-! ### Marks -/
/-- The cells of a row of marks. -/
def cellsM (ms : List (ByteArray × Nat)) : List Value := ms.flatMap fun m => [.string m.1, .int .i64 m.2]
theorem cellsM_len : ∀ ms : List (ByteArray × Nat), (cellsM ms).length = ms.length * 2
  | [] => rfl
  | m :: ms => by
    have := cellsM_len ms
    unfold cellsM at this ⊢
    rw [List.flatMap_cons, List.length_append, this]
    simp
    omega
theorem cellsM_snoc (ms : List (ByteArray × Nat)) (m : ByteArray × Nat) : cellsM (ms ++ [m]) = cellsM ms ++ [.string m.1, .int .i64 m.2] := by simp [cellsM]
theorem cellsM_at : ∀ (ms : List (ByteArray × Nat)) (k : Nat) (m : ByteArray × Nat), ms[k]? = some m → (cellsM ms)[k * 2]? = some (.string m.1) ∧ (cellsM ms)[k * 2 + 1]? = some (.int .i64 m.2)
  | [], k, m, h => by simp at h
  | a :: ms, 0, m, h => by
    simp at h
    subst h
    exact ⟨rfl, rfl⟩
  | a :: ms, k + 1, m, h => by
    have ih := cellsM_at ms k m (by simpa using h)
    have e : cellsM (a :: ms) = .string a.1 :: .int .i64 a.2 :: cellsM ms := rfl
    rw [e, show (k + 1) * 2 = k * 2 + 2 by omega]
    exact ih
/-- Where a rest stands first. -/
def knownM (ms : List (ByteArray × Nat)) (q : ByteArray) : Option Nat := (ms.find? fun m => decide (m.1 = q)).map (·.2)
theorem knownM_some {ms : List (ByteArray × Nat)} {q : ByteArray} {a : Nat} (h : knownM ms q = some a) : (q, a) ∈ ms := by
  unfold knownM at h
  obtain ⟨m, hm, rfl⟩ := Option.map_eq_some_iff.1 h
  have h1 := List.mem_of_find?_eq_some hm
  have h2 := List.find?_some hm
  simp only [decide_eq_true_eq] at h2
  rw [← h2]
  exact h1
/-- Each mark is ahead of the end, and is read where it stands, its run beginning there. -/
def GM (S : List UInt8) (ms : List (ByteArray × Nat)) : Prop := ∀ m ∈ ms, m.2 < S.length ∧ ∃ e c, Ru S m.2 m.2 (bs m.1) e c
theorem GM.nil (S : List UInt8) : GM S [] := fun m h => by cases h
/-- While a name is put: S0 stood, with the marks ms; of the name n the rest r is still to come; new are the marks nw. -/
structure Mid (S0 : List UInt8) (n : List UInt8) (ms nw : List (ByteArray × Nat)) (S r : List UInt8) : Prop where
  labs : ∃ L, okN L ∧ r = enc L
  app : ∃ y, S = S0 ++ y
  len : S.length + r.length = S0.length + n.length
  new : ∀ m ∈ nw, S0.length ≤ m.2 ∧ m.2 < S.length ∧ r.length < m.1.size
  tell : ∀ y e c, Ru (S ++ y) S0.length S.length r e c → (∀ m ∈ nw, Ru (S ++ y) S0.length m.2 (bs m.1) e c) ∧ Ru (S ++ y) S0.length S0.length n e c
theorem Mid.start {S0 n : List UInt8} {ms : List (ByteArray × Nat)} (hc : chkN n = 0) : Mid S0 n ms [] S0 n := by
  obtain ⟨L, hL, h, _⟩ := chkN_out hc
  exact ⟨⟨L, hL, h⟩, ⟨[], by simp⟩, rfl, (fun m h => by cases h), fun y e c h => ⟨(fun m h => by cases h), h⟩⟩
/-- A label more. -/
theorem Mid.step {S0 n S r : List UInt8} {ms nw : List (ByteArray × Nat)} (h : Mid S0 n ms nw S r) (hr : r ≠ []) {q : ByteArray} (hq : bs q = r) :
    ∃ a t, r = a :: t ∧ 1 ≤ a.toNat ∧ a.toNat ≤ 63 ∧ a.toNat ≤ t.length ∧ Mid S0 n ms (nw ++ [(q, S.length)]) (S ++ (a :: t.take a.toNat)) (t.drop a.toNat) := by
  obtain ⟨⟨L, hL, hrL⟩, ⟨y0, hy0⟩, hlen, hnew, htell⟩ := h
  rcases L with _ | ⟨x, L⟩
  · exact absurd hrL hr
  · obtain ⟨hx, hL'⟩ := okN_cons.1 hL
    have hx' := hx
    unfold ok1 at hx'
    have hn : (UInt8.ofNat x.length).toNat = x.length := UInt8.toNat_ofNat_of_lt' (by show _ < 256; omega)
    have e1 : r = UInt8.ofNat x.length :: (x ++ enc L) := hrL
    have e2 : (UInt8.ofNat x.length :: (x ++ enc L).take (UInt8.ofNat x.length).toNat) = enc1 x := by rw [hn, List.take_left' rfl]; rfl
    have e3 : (x ++ enc L).drop (UInt8.ofNat x.length).toNat = enc L := by rw [hn, List.drop_left' rfl]
    refine ⟨UInt8.ofNat x.length, x ++ enc L, e1, by omega, by omega, by rw [hn, List.length_append]; omega, ?_⟩
    rw [e2, e3]
    have hrl : r.length = 1 + x.length + (enc L).length := by rw [e1, List.length_cons, List.length_append]; omega
    have hqs : q.size = r.length := by rw [← bs_length, hq]
    refine ⟨⟨L, hL', rfl⟩, ⟨y0 ++ enc1 x, by rw [hy0, List.append_assoc]⟩, by rw [List.length_append, enc1_length]; omega, fun m hm => ?_, fun y e c hr' => ?_⟩
    · rw [List.length_append, enc1_length]
      rcases List.mem_append.1 hm with hm | hm
      · obtain ⟨h1, h2, h3⟩ := hnew m hm
        exact ⟨h1, by omega, by omega⟩
      · obtain rfl := List.mem_singleton.1 hm
        simp only
        rw [hy0, List.length_append] at *
        omega
    · have hrd : Ru (S ++ (enc1 x ++ y)) S0.length S.length r e c := by
        rw [hrL, enc_cons]
        rw [List.append_assoc] at hr'
        refine .lab hx ?_ ?_
        · rw [List.drop_left' rfl, List.take_left' (by rw [enc1_length]; omega)]
        · rw [List.length_append, enc1_length] at hr'
          rw [show S.length + (1 + x.length) = S.length + (x.length + 1) by omega]
          exact hr'
      obtain ⟨t1, t2⟩ := htell (enc1 x ++ y) e c hrd
      rw [List.append_assoc]
      refine ⟨fun m hm => ?_, t2⟩
      rcases List.mem_append.1 hm with hm | hm
      · exact t1 m hm
      · obtain rfl := List.mem_singleton.1 hm
        rw [hq]
        exact hrd
/-- What a name that was put comes to. -/
structure PutR (S0 n : List UInt8) (S : List UInt8) (ms : List (ByteArray × Nat)) : Prop where
  app : ∃ y, S = S0 ++ y ∧ 1 ≤ y.length ∧ y.length ≤ n.length + 1
  marks : GM S ms
  read : ∃ c, Ru S S0.length S0.length n S.length c
theorem Mid.fin {S0 n S r : List UInt8} {ms nw : List (ByteArray × Nat)} (h : Mid S0 n ms nw S r) (hg : GM S0 ms) (z : List UInt8) (hz : 1 ≤ z.length ∧ z.length ≤ r.length + 1) {c : Nat} (hr : Ru (S ++ z) S0.length S.length r (S ++ z).length c) : PutR S0 n (S ++ z) (ms ++ nw) := by
  obtain ⟨_, ⟨y0, hy0⟩, hlen, hnew, htell⟩ := h
  obtain ⟨t1, t2⟩ := htell z _ c hr
  refine ⟨⟨y0 ++ z, by rw [hy0, List.append_assoc], by rw [List.length_append]; omega, ?_⟩, fun m hm => ?_, ⟨c, t2⟩⟩
  · rw [List.length_append]
    rw [hy0, List.length_append] at hlen
    omega
  · rcases List.mem_append.1 hm with hm | hm
    · obtain ⟨h1, e, c, h2⟩ := hg m hm
      refine ⟨?_, e, c, ?_⟩
      · rw [hy0, List.length_append, List.length_append]; omega
      · rw [hy0, List.append_assoc]
        exact h2.app _
    · obtain ⟨h1, h2, _⟩ := hnew m hm
      exact ⟨by rw [List.length_append]; omega, _, _, (t1 m hm).mono h1⟩
theorem Mid.nought {S0 n S : List UInt8} {ms nw : List (ByteArray × Nat)} (h : Mid S0 n ms nw S []) (hg : GM S0 ms) : PutR S0 n (S ++ [0]) (ms ++ nw) := by
  refine h.fin hg [0] (by simp) (c := 0) ?_
  rw [List.length_append]
  exact .nil (by simp)
theorem octs2' (v : Nat) : octs v 2 = [UInt8.ofNat (v / 256), UInt8.ofNat v] := by simp [octs]
theorem Mid.point {S0 n S r : List UInt8} {ms nw : List (ByteArray × Nat)} (h : Mid S0 n ms nw S r) (hg : GM S0 ms) (hr : r ≠ []) {q : ByteArray} (hq : bs q = r) {a : Nat} (hk : knownM (ms ++ nw) q = some a) (ha : a < 16384) :
    PutR S0 n (S ++ octs (49152 + a) 2) (ms ++ nw) := by
  have hmem := knownM_some hk
  have hq' : q.size = r.length := by rw [← bs_length, hq]
  have hms : (q, a) ∈ ms := by
    rcases List.mem_append.1 hmem with hm | hm
    · exact hm
    · have := (h.new _ hm).2.2
      simp only at this
      omega
  obtain ⟨h1, e, c, h2⟩ := hg _ hms
  simp only at h1 h2
  obtain ⟨y0, hy0⟩ := h.app
  have hrl : 1 ≤ r.length := List.length_pos_iff.2 hr
  have h3 : (UInt8.ofNat ((49152 + a) / 256)).toNat = 192 + a / 256 := by rw [ofNat_val]; omega
  have h4 : (UInt8.ofNat (49152 + a)).toNat = a % 256 := by rw [ofNat_val]; omega
  have hto : 256 * ((UInt8.ofNat ((49152 + a) / 256)).toNat - 192) + (UInt8.ofNat (49152 + a)).toNat = a := by rw [h3, h4]; omega
  refine h.fin hg (octs (49152 + a) 2) (by rw [octs_length]; omega) (c := c + 1) ?_
  rw [List.length_append, octs_length]
  refine .ptr (a := UInt8.ofNat ((49152 + a) / 256)) (d := UInt8.ofNat (49152 + a)) (e := e) ?_ (by omega) ?_ (by omega) ?_
  · rw [List.getElem?_append_right (Nat.le_refl _), octs2']; simp
  · rw [List.getElem?_append_right (by omega), octs2']; simp
  · rw [hto, ← hq, hy0, List.append_assoc]
    exact h2.app _
end Go.Proofs.Ytlpgoeigcccmhaa
