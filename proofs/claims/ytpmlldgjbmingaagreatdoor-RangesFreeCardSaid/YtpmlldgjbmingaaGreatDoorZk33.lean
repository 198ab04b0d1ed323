/-
  A newer text read: the walk of addr.readNewer. Conditions: as each theorem names them. A text read: the walk of addr.Read. Conditions: as each theorem names them.
-/
import Derived.Test.YtpmlldgjbmingaaGreatDoorZk32
namespace Go.Proofs.YtpmlldgjbmingaaGreatDoor
open Go.RowKit
set_option linter.unusedVariables false

theorem cut_len (s sep : List UInt8) : (Lib.cut s sep).1.length ≤ s.length ∧ (Lib.cut s sep).2.1.length ≤ s.length := by
  unfold Lib.cut
  split
  · simp only [List.length_take, List.length_drop]
    omega
  · simp
theorem withO_len {s p : List UInt8} (h : withO s = some p) : p.length ≤ s.length + 34 := by
  unfold withO at h
  split at h
  · injection h with h
    subst h
    omega
  · split at h
    · cases h
    · rename_i a ha
      injection h with h
      subst h
      have hg := join_len (sep := [58]) (m := 16) (L := ((grpA a).drop 6).map hexT) fun x hx => by
        obtain ⟨c, _, rfl⟩ := List.mem_map.1 hx
        exact hexT_len c
      rw [List.length_map, List.length_drop, grpA_len, List.length_singleton] at hg
      rw [List.length_append, List.length_take]
      unfold grpT
      omega
/-- What comes of a text's groups. -/
def grpsO (s : List UInt8) : Option (List Nat) := eachO (hexO 4) (splitA s 58 8)
theorem grpsO_lt {s : List UInt8} {l : List Nat} (h : grpsO s = some l) : ∀ c ∈ l, c < 65536 := eachO_lt (m := 65536) (fun x v hv => hexO_lt hv) h
theorem grpsO_len {s : List UInt8} {l : List Nat} (h : grpsO s = some l) (n : Nat) (hn : (splitA s 58 8).length ≤ n) : l.length ≤ n := by
  rw [eachO_len h]
  exact hn
/-- split's and each's contracts together, for one text. -/
def SplC (T : ByteArray) : Prop := ∀ wx : World, Ground wx → Calls Tryz.prog 93 #[.string T, .string ⟨#[58]⟩, .int .i64 8] wx fun e w' => ∃ v, e = .returned v ∧ (∃ A n c, v = .slice A n c) ∧ Below wx.heap.size wx w' ∧
  ∀ w2 : World, Ground w2 → w' = w2 → Calls Tryz.prog 96 #[v, .func (.func 97) #[] #[]] w2 (EachR 66 .u16 (grpsO (bs T)) w2)
theorem splC (T : ByteArray) (hs : T.size ≤ 1000000) : SplC T := fun wx hg => by
  refine (split_any T 58 8 wx hs (by decide) hg).mono ?_
  rintro e w' ⟨v, Ls, rfl, h1, h2, h3, h4, h5⟩
  refine ⟨v, rfl, ?_, h5, fun w2 hg2 e => ?_⟩
  · obtain ⟨A, c, rfl, _⟩ := h1.shape
    exact ⟨A, _, c, rfl⟩
  · subst e
    have := eachG_any Ls v w' h1 (by omega) (fun x hx => Nat.le_trans (h4 x hx) hs) hg2
    rw [h2] at this
    exact this
theorem row_u16 {w : World} {base : Nat} {v : Value} {l : List Nat} (hown : w.ownsRow base 66 1 v (l.map fun n : Nat => Value.int .u16 (n : Int)).length (l.map fun n : Nat => Value.int .u16 (n : Int))) : RowE U16 w v l := by
  have e : (l.map fun n : Nat => Value.int .u16 (n : Int)) = l.map U16 := rfl
  rw [e, List.length_map] at hown
  exact RowE.of_own hown
theorem newO_eq (s : List UInt8) : newO s = match withO s with
    | none => none
    | some p => match grpsO (Lib.cut p [58, 58]).1 with
      | none => none
      | some a => match grpsO (Lib.cut p [58, 58]).2.1 with
        | none => none
        | some b => if 8 < a.length + b.length ∨ (Lib.cut p [58, 58]).2.2 ≠ decide (a.length + b.length < 8) then none else some (newerA 65536 (gapG a b)) := rfl
theorem splitK_len (sep : List UInt8) : ∀ (k : Nat) (s : List UInt8), (Lib.splitK sep 0 k s).length ≤ k + 1
  | 0, s => Nat.le_refl _
  | k + 1, s => by
    unfold Lib.splitK
    split
    · simp
    · rw [List.length_cons]
      have := splitK_len sep k (s.drop ((Lib.index s sep).toNat + sep.length))
      omega
theorem splitA_len (s : List UInt8) (c : UInt8) (n : Nat) : (splitA s c n).length ≤ n + 1 := by
  unfold splitA
  split
  · simp
  · have := splitK_len [c] (min (n + 1) (s.length + 1) - 1) s
    unfold Lib.splitN
    omega
theorem szU16 : (Tryz.prog.info? 66).map (·.size) = some 1 := by kernel_rfl
theorem RowE.alloc' {α : Type} {enc : α → Value} {w : World} {v : Value} {L : List α} (h : RowE enc w v L) (o : Obj) : RowE enc (w.alloc o) v L := h.next ((Below.refl _ _).alloc (Nat.le_refl _) o)
/-- What is copied, as the law of copying asks for it. -/
theorem copy_srcN {w : World} {A : Option Addr} {cap n : Nat} {l : List Nat} {dp : Option Addr} (h : RowE U16 w (.slice A n cap) l) (hn : n = l.length) : 0 < (l.map U16).length → dp = dp ∧ ∃ ad, A = some ad ∧ ∀ j v, (l.map U16)[j]? = some v → w.cell? (ad.add j) = some v := by
  subst hn
  intro h0
  rw [List.length_map] at h0
  obtain ⟨g, off, c, e, hat⟩ := h.at' (fun e => by rw [e] at h0; simp at h0)
  simp only [Value.slice.injEq, true_and] at e
  obtain ⟨rfl, rfl⟩ := e
  refine ⟨rfl, _, rfl, fun j v hv => ?_⟩
  rw [List.getElem?_map] at hv
  obtain ⟨x, hx, rfl⟩ := Option.map_eq_some_iff.1 hv
  obtain ⟨hj, rfl⟩ := List.getElem?_eq_some_iff.1 hx
  rw [add_offA]
  exact hat.cell j hj
theorem spl_gap {a b : List Nat} {n mi : Nat} (ha : n = a.length) (hb : n + mi + b.length = 8) : splice (splice (List.replicate 8 (U16 0)) 0 (a.map U16)) (n + mi) (b.map U16) = (gapG a b).map U16 := by
  subst ha
  have e1 : splice (List.replicate 8 (U16 0)) 0 (a.map U16) = a.map U16 ++ List.replicate (8 - a.length) (U16 0) := by unfold splice; rw [List.take_zero, List.nil_append, Nat.zero_add, List.length_map, List.drop_replicate]
  have e2 : 8 - a.length - b.length = mi := by omega
  have e3 : min mi (8 - a.length) = mi := by omega
  rw [e1]
  unfold splice gapG
  rw [e2, List.take_append, List.take_of_length_le (by rw [List.length_map]; omega), List.length_map, List.drop_of_length_le (by simp; omega), List.take_replicate, show a.length + mi - a.length = mi by omega, e3]
  simp
theorem spl_nil {α : Type} (L : List α) : splice L 0 [] = L := by simp [splice]
theorem spl_end {α : Type} (L : List α) (k : Nat) : splice L k [] = L := by simp [splice]
theorem spl_gap0 {a : List Nat} {n mi : Nat} (ha : n = a.length) (hb : n + mi = 8) : splice (splice (List.replicate 8 (U16 0)) 0 (a.map U16)) 0 [] = (gapG a []).map U16 := by
  rw [spl_nil, ← spl_gap (b := []) (mi := mi) ha (by simpa using hb)]
  exact (spl_end _ _).symm
theorem gap_len {a b : List Nat} (h : a.length + b.length ≤ 8) : (gapG a b).length = 8 := by simp [gapG]; omega
theorem gap_lt {a b : List Nat} (h1 : ∀ c ∈ a, c < 65536) (h2 : ∀ c ∈ b, c < 65536) : ∀ c ∈ gapG a b, c < 2 ^ 16 := by
  intro c hc
  simp only [gapG, List.mem_append, List.mem_replicate] at hc
  rcases hc with (hc | hc) | hc
  · exact h1 c hc
  · rw [hc.2]; decide
  · exact h2 c hc
theorem lies_row {w : World} {g : Nat} {t : TypeId} {l : List Nat} {cs : List Value} (h : Lies w g t cs.toArray) (e : cs = l.map U16) (hl : l.length = 8) : RowE U16 w (.slice (some ⟨g, 0, none⟩) 8 8) l := by
  have := (At.of_lies (enc := U16) (L := l) h e (by rw [hl]; decide)).row
  rwa [hl] at this
set_option maxRecDepth 10000 in
set_option maxHeartbeats 8000000 in
theorem readNewer_any (s : ByteArray) (w : World) (hs : s.size ≤ 900000) (hG : Ground w) :
    Calls Tryz.prog 50 #[.string s] w fun e w' => e = .returned (optA (newO (bs s))) ∧ Below w.heap.size w w' := by
  obtain ⟨w0, hw0⟩ : ∃ w0, w0 = w.alloc (.cells #[.bool false, .int .u64 0, .int .u64 0] 24) := ⟨_, rfl⟩
  have hb0 : Below w.heap.size w w0 := by rw [hw0]; exact (Below.refl _ _).alloc (Nat.le_refl _) _
  have HB0 := Lib.hid hb0
  have HG0 := Lib.hid (hG.next hb0)
  have HL0 : Hid (AdB w0 w.heap.size false 0 0) := Lib.hid (by rw [hw0]; exact Lies.new _ _ _)
  have HW := Lib.hid (withoutElder_any s w0 (by omega) (hG.next hb0))
  rw [newO_eq]
  clear hb0 hG
  cases hp : withO (bs s) with
  | none =>
    rw [hp] at HW
    simp only [optS] at HW
    go_enter Tryz.func50, Tryz.ntmps50
    go_wp2_with (first | (go_at_call 95; rw [← hw0]; (with_reducible refine HW.out.mono ?_); rintro e w1 ⟨rfl, hb1⟩; have HL1 : Hid (AdB w1 w.heap.size false 0 0) := Lib.hid (Lies.next HL0.out hb1); obtain ⟨⟨hc0, hc1, hc2⟩, hf0, hf1, hf2⟩ := HL1.out.facts; have HB1 := Lib.hid hb1; clear hb1) | fail)
    refine bodyPost_ret (ret_ad2 rfl _ _ w.heap.size noA rfl (AdB.put HL1.out _ _ _)) rfl ?_
    exact ⟨rfl, put3 (next HB0.out HB1.out) (Nat.le_refl _) _ _ _⟩
  | some p =>
    rw [hp] at HW
    simp only [optS] at HW
    have hpl := withO_len hp
    rw [bs_length] at hpl
    obtain ⟨P, hP⟩ : ∃ P : ByteArray, P = ⟨p.toArray⟩ := ⟨_, rfl⟩
    have hPb : bs P = p := by rw [hP, bs_mk]
    rw [← hP] at HW
    obtain ⟨X, hX⟩ : ∃ X : ByteArray, X = ⟨(Lib.cut p [58, 58]).1.toArray⟩ := ⟨_, rfl⟩
    obtain ⟨Y, hY⟩ : ∃ Y : ByteArray, Y = ⟨(Lib.cut p [58, 58]).2.1.toArray⟩ := ⟨_, rfl⟩
    obtain ⟨gp, hgp⟩ : ∃ gp, gp = (Lib.cut p [58, 58]).2.2 := ⟨_, rfl⟩
    have hXb : bs X = (Lib.cut p [58, 58]).1 := by rw [hX, bs_mk]
    have hYb : bs Y = (Lib.cut p [58, 58]).2.1 := by rw [hY, bs_mk]
    have hcl := cut_len p [58, 58]
    have hXs : X.size ≤ 1000000 := by rw [← bs_length, hXb]; omega
    have hYs : Y.size ≤ 1000000 := by rw [← bs_length, hYb]; omega
    have hPs : P.size ≤ 1000000 := by rw [← bs_length, hPb]; omega
    have HC : Hid (∀ wx, Ground wx → Calls Tryz.prog 82 #[.string P, .string ⟨#[58, 58]⟩] wx fun e w' => e = .returned (.tuple #[.string X, .string Y, .bool gp]) ∧ Below wx.heap.size wx w') := Lib.hid (fun wx hg => by
      obtain ⟨m, hm⟩ := hg.maxlen
      have := Tryz.strings_Cut P ⟨#[58, 58]⟩ m wx (by omega) hm
      rw [show P.data.toList = p from hPb, show (⟨#[58, 58]⟩ : ByteArray).data.toList = [58, 58] from rfl, ← hX, ← hY, ← hgp] at this
      refine this.mono ?_
      rintro e w' ⟨rfl, n, rfl⟩
      exact ⟨rfl, below_dN (Below.refl _ _) n⟩)
    have HSX := Lib.hid (splC X hXs)
    have HSY := Lib.hid (splC Y hYs)
    simp only
    rw [← hXb, ← hYb, ← hgp]
    unfold SplC at HSX HSY
    clear hX hY hgp hcl hXb hYb hP hPb hp hXs hYs hPs hpl
    cases ha : grpsO (bs X) with
    | none =>
      simp only
      go_enter Tryz.func50, Tryz.ntmps50
      go_wp2_with (first | (go_at_call 95; rw [← hw0]; (with_reducible refine HW.out.mono ?_); rintro e w1 ⟨rfl, hb1⟩; have HB1 := Lib.hid hb1; clear hb1) | (go_at_call 82; (with_reducible refine (HC.out _ (HG0.out.next HB1.out)).mono ?_); rintro e w2 ⟨rfl, hb2⟩; have HB2 := Lib.hid (next HB1.out hb2); clear hb2) | (go_at_call 93; (with_reducible refine (HSX.out _ (HG0.out.next HB2.out)).mono ?_); rintro e w3 ⟨v3, rfl, ⟨A3, n3, c3, rfl⟩, hb3, hE3⟩; have HB3 := Lib.hid (next HB2.out hb3); have HE3 := Lib.hid (hE3 w3 (HG0.out.next HB3.out) rfl); clear hb3 hE3) | (go_at_call 96; rw [ha] at HE3; (with_reducible refine HE3.out.mono ?_); rintro e w4 ⟨hb4, rfl⟩; have HB4 := Lib.hid (next HB3.out hb4); clear hb4; have HL4 : Hid (AdB w4 w.heap.size false 0 0) := Lib.hid (Lies.next HL0.out HB4.out); obtain ⟨⟨hc0, hc1, hc2⟩, hf0, hf1, hf2⟩ := HL4.out.facts; skip) | fail)
      refine bodyPost_ret (ret_ad2 rfl _ _ w.heap.size noA rfl (AdB.put HL4.out _ _ _)) rfl ?_
      exact ⟨rfl, put3 (next HB0.out HB4.out) (Nat.le_refl _) _ _ _⟩
    | some a =>
      simp only
      cases hb : grpsO (bs Y) with
      | none =>
        simp only
        go_enter Tryz.func50, Tryz.ntmps50
        go_wp2_with (first | (go_at_call 95; rw [← hw0]; (with_reducible refine HW.out.mono ?_); rintro e w1 ⟨rfl, hb1⟩; have HB1 := Lib.hid hb1; clear hb1) | (go_at_call 82; (with_reducible refine (HC.out _ (HG0.out.next HB1.out)).mono ?_); rintro e w2 ⟨rfl, hb2⟩; have HB2 := Lib.hid (next HB1.out hb2); clear hb2) | (go_at_call 93; (with_reducible refine (HSX.out _ (HG0.out.next HB2.out)).mono ?_); rintro e w3 ⟨v3, rfl, ⟨A3, n3, c3, rfl⟩, hb3, hE3⟩; have HB3 := Lib.hid (next HB2.out hb3); have HE3 := Lib.hid (hE3 w3 (HG0.out.next HB3.out) rfl); clear hb3 hE3) | (go_at_call 96; rw [ha] at HE3; (with_reducible refine HE3.out.mono ?_); rintro e w4 ⟨hb4, v4, rfl, hown4⟩; have HB4 := Lib.hid (next HB3.out hb4); have HX4 := Lib.hid (row_u16 hown4); obtain ⟨A4, c4, rfl⟩ := own_shape1 hown4; rw [List.length_map] at HX4 ⊢; clear hb4 hown4) | (go_at_call 93; (with_reducible refine (HSY.out _ (HG0.out.next HB4.out)).mono ?_); rintro e w5 ⟨v5, rfl, ⟨A5, n5, c5, rfl⟩, hb5, hE5⟩; have HB5 := Lib.hid (next HB4.out hb5); have HB45 := Lib.hid hb5; have HE5 := Lib.hid (hE5 w5 (HG0.out.next HB5.out) rfl); clear hb5 hE5) | (go_at_call 96; rw [hb] at HE5; (with_reducible refine HE5.out.mono ?_); rintro e w6 ⟨hb6, rfl⟩; have HB6 := Lib.hid (next HB5.out hb6); clear hb6; have HL6 : Hid (AdB w6 w.heap.size false 0 0) := Lib.hid (Lies.next HL0.out HB6.out); obtain ⟨⟨hc0, hc1, hc2⟩, hf0, hf1, hf2⟩ := HL6.out.facts; skip) | fail)
        refine bodyPost_ret (ret_ad2 rfl _ _ w.heap.size noA rfl (AdB.put HL6.out _ _ _)) rfl ?_
        exact ⟨rfl, put3 (next HB0.out HB6.out) (Nat.le_refl _) _ _ _⟩
      | some b =>
        simp only
        have hal := grpsO_len ha 9 (splitA_len _ _ _)
        have hbl := grpsO_len hb 9 (splitA_len _ _ _)
        have hw1 : IntKind.i64.wrap ((8 : Int) - a.length) = (8 : Int) - a.length := IntWalk.i64_in _ (by omega)
        have hw2 : IntKind.i64.wrap ((8 : Int) - a.length - b.length) = (8 : Int) - a.length - b.length := IntWalk.i64_in _ (by omega)
        by_cases h9 : 8 < a.length + b.length
        · rw [if_pos (.inl h9)]
          have hn1 : (8 : Int) - a.length - b.length < 0 := by omega
          go_enter Tryz.func50, Tryz.ntmps50
          go_wp2_with (first | (go_at_call 95; rw [← hw0]; (with_reducible refine HW.out.mono ?_); rintro e w1 ⟨rfl, hb1⟩; have HB1 := Lib.hid hb1; clear hb1) | (go_at_call 82; (with_reducible refine (HC.out _ (HG0.out.next HB1.out)).mono ?_); rintro e w2 ⟨rfl, hb2⟩; have HB2 := Lib.hid (next HB1.out hb2); clear hb2) | (go_at_call 93; (with_reducible refine (HSX.out _ (HG0.out.next HB2.out)).mono ?_); rintro e w3 ⟨v3, rfl, ⟨A3, n3, c3, rfl⟩, hb3, hE3⟩; have HB3 := Lib.hid (next HB2.out hb3); have HE3 := Lib.hid (hE3 w3 (HG0.out.next HB3.out) rfl); clear hb3 hE3) | (go_at_call 96; rw [ha] at HE3; (with_reducible refine HE3.out.mono ?_); rintro e w4 ⟨hb4, v4, rfl, hown4⟩; have HB4 := Lib.hid (next HB3.out hb4); have HX4 := Lib.hid (row_u16 hown4); obtain ⟨A4, c4, rfl⟩ := own_shape1 hown4; rw [List.length_map] at HX4 ⊢; clear hb4 hown4) | (go_at_call 93; (with_reducible refine (HSY.out _ (HG0.out.next HB4.out)).mono ?_); rintro e w5 ⟨v5, rfl, ⟨A5, n5, c5, rfl⟩, hb5, hE5⟩; have HB5 := Lib.hid (next HB4.out hb5); have HB45 := Lib.hid hb5; have HE5 := Lib.hid (hE5 w5 (HG0.out.next HB5.out) rfl); clear hb5 hE5) | (go_at_call 96; rw [hb] at HE5; (with_reducible refine HE5.out.mono ?_); rintro e w6 ⟨hb6, v6, rfl, hown6⟩; have HB6 := Lib.hid (next HB5.out hb6); have HX6 := Lib.hid (row_u16 hown6); have HX46 := Lib.hid ((HX4.out.next HB45.out).next hb6); obtain ⟨A6, c6, rfl⟩ := own_shape1 hown6; rw [List.length_map] at HX6 ⊢; clear hb6 hown6; have HL6 : Hid (AdB w6 w.heap.size false 0 0) := Lib.hid (Lies.next HL0.out HB6.out); obtain ⟨⟨hc0, hc1, hc2⟩, hf0, hf1, hf2⟩ := HL6.out.facts; skip) | fail)
          refine bodyPost_ret (ret_ad2 rfl _ _ w.heap.size noA rfl (AdB.put HL6.out _ _ _)) rfl ?_
          exact ⟨rfl, put3 (next HB0.out HB6.out) (Nat.le_refl _) _ _ _⟩
        · have hn1 : ¬ ((8 : Int) - a.length - b.length < 0) := by omega
          by_cases h8 : a.length + b.length < 8
          · have hp1 : (0 : Int) < (8 : Int) - a.length - b.length := by omega
            cases gp with
            | false =>
              rw [if_pos (.inr (by simp [h8]))]
              go_enter Tryz.func50, Tryz.ntmps50
              go_wp2_with (first | (go_at_call 95; rw [← hw0]; (with_reducible refine HW.out.mono ?_); rintro e w1 ⟨rfl, hb1⟩; have HB1 := Lib.hid hb1; clear hb1) | (go_at_call 82; (with_reducible refine (HC.out _ (HG0.out.next HB1.out)).mono ?_); rintro e w2 ⟨rfl, hb2⟩; have HB2 := Lib.hid (next HB1.out hb2); clear hb2) | (go_at_call 93; (with_reducible refine (HSX.out _ (HG0.out.next HB2.out)).mono ?_); rintro e w3 ⟨v3, rfl, ⟨A3, n3, c3, rfl⟩, hb3, hE3⟩; have HB3 := Lib.hid (next HB2.out hb3); have HE3 := Lib.hid (hE3 w3 (HG0.out.next HB3.out) rfl); clear hb3 hE3) | (go_at_call 96; rw [ha] at HE3; (with_reducible refine HE3.out.mono ?_); rintro e w4 ⟨hb4, v4, rfl, hown4⟩; have HB4 := Lib.hid (next HB3.out hb4); have HX4 := Lib.hid (row_u16 hown4); obtain ⟨A4, c4, rfl⟩ := own_shape1 hown4; rw [List.length_map] at HX4 ⊢; clear hb4 hown4) | (go_at_call 93; (with_reducible refine (HSY.out _ (HG0.out.next HB4.out)).mono ?_); rintro e w5 ⟨v5, rfl, ⟨A5, n5, c5, rfl⟩, hb5, hE5⟩; have HB5 := Lib.hid (next HB4.out hb5); have HB45 := Lib.hid hb5; have HE5 := Lib.hid (hE5 w5 (HG0.out.next HB5.out) rfl); clear hb5 hE5) | (go_at_call 96; rw [hb] at HE5; (with_reducible refine HE5.out.mono ?_); rintro e w6 ⟨hb6, v6, rfl, hown6⟩; have HB6 := Lib.hid (next HB5.out hb6); have HX6 := Lib.hid (row_u16 hown6); have HX46 := Lib.hid ((HX4.out.next HB45.out).next hb6); obtain ⟨A6, c6, rfl⟩ := own_shape1 hown6; rw [List.length_map] at HX6 ⊢; clear hb6 hown6; have HL6 : Hid (AdB w6 w.heap.size false 0 0) := Lib.hid (Lies.next HL0.out HB6.out); obtain ⟨⟨hc0, hc1, hc2⟩, hf0, hf1, hf2⟩ := HL6.out.facts; skip) | fail)
              refine bodyPost_ret (ret_ad2 rfl _ _ w.heap.size noA rfl (AdB.put HL6.out _ _ _)) rfl ?_
              exact ⟨rfl, put3 (next HB0.out HB6.out) (Nat.le_refl _) _ _ _⟩
            | true =>
              rw [if_neg (by simp [h8]; omega)]
              obtain ⟨n, hn⟩ : ∃ n, n = a.length := ⟨_, rfl⟩
              obtain ⟨m, hm⟩ : ∃ m, m = b.length := ⟨_, rfl⟩
              obtain ⟨mi, hmi⟩ : ∃ mi, mi = 8 - n - m := ⟨_, rfl⟩
              have HNE := Lib.hid (fun v wx hx => newerU8_any (gapG a b) v wx hx (gap_len (by omega)) (gap_lt (grpsO_lt ha) (grpsO_lt hb)))
              have HGL := Lib.hid (gap_len (a := a) (b := b) (by omega))
              have HA1 : Hid ((a.map U16).length = Nat.min n 8) := Lib.hid (by rw [List.length_map, ← hn]; exact (Nat.min_eq_left (by omega)).symm)
              have HA2 : Hid (0 + (a.map U16).length ≤ (List.replicate 8 (U16 0)).length) := Lib.hid (by rw [List.length_map, List.length_replicate]; omega)
              have hv1 : IntKind.i64.wrap ((8 : Int) - n) = (8 : Int) - n := IntWalk.i64_in _ (by omega)
              by_cases hmB : m = 0
              · have HN8 : Hid (n + mi = 8) := Lib.hid (by omega)
                have hv2 : IntKind.i64.wrap ((8 : Int) - n - m) = mi := by rw [IntWalk.i64_in _ (by omega)]; omega
                have hv3 : IntKind.i64.wrap ((n : Int) + mi) = 8 := by rw [IntWalk.i64_in _ (by omega)]; omega
                have hv4 : ¬ ((mi : Int) < 0) := by omega
                have hv5 : 0 < mi := by omega
                obtain rfl : b = [] := List.eq_nil_of_length_eq_zero (by omega)
                obtain ⟨r1, r2, hr⟩ : ∃ r1 r2, newerA 65536 (gapG a []) = (true, r1, r2) := ⟨_, _, rfl⟩
                rw [hr] at HNE ⊢
                simp only [av] at HNE
                have HN := Lib.hid hn
                have HM := Lib.hid hm
                clear hn hm hal hbl hw1 hw2 hn1 hp1 h9 h8 hmi hmB
                go_enter Tryz.func50, Tryz.ntmps50
                go_wp2_with (first | (go_at_call 95; rw [← hw0]; (with_reducible refine HW.out.mono ?_); rintro e w1 ⟨rfl, hb1⟩; have HB1 := Lib.hid hb1; clear hb1) | (go_at_call 82; (with_reducible refine (HC.out _ (HG0.out.next HB1.out)).mono ?_); rintro e w2 ⟨rfl, hb2⟩; have HB2 := Lib.hid (next HB1.out hb2); clear hb2) | (go_at_call 93; (with_reducible refine (HSX.out _ (HG0.out.next HB2.out)).mono ?_); rintro e w3 ⟨v3, rfl, ⟨A3, n3, c3, rfl⟩, hb3, hE3⟩; have HB3 := Lib.hid (next HB2.out hb3); have HE3 := Lib.hid (hE3 w3 (HG0.out.next HB3.out) rfl); clear hb3 hE3) | (go_at_call 96; rw [ha] at HE3; (with_reducible refine HE3.out.mono ?_); rintro e w4 ⟨hb4, v4, rfl, hown4⟩; have HB4 := Lib.hid (next HB3.out hb4); have HX4 := Lib.hid (row_u16 hown4); obtain ⟨A4, c4, rfl⟩ := own_shape1 hown4; rw [List.length_map, ← HN.out] at HX4 ⊢; clear hb4 hown4) | (go_at_call 93; (with_reducible refine (HSY.out _ (HG0.out.next HB4.out)).mono ?_); rintro e w5 ⟨v5, rfl, ⟨A5, n5, c5, rfl⟩, hb5, hE5⟩; have HB5 := Lib.hid (next HB4.out hb5); have HB45 := Lib.hid hb5; have HE5 := Lib.hid (hE5 w5 (HG0.out.next HB5.out) rfl); clear hb5 hE5) | (go_at_call 96; rw [hb] at HE5; (with_reducible refine HE5.out.mono ?_); rintro e w6 ⟨hb6, v6, rfl, hown6⟩; have HB6 := Lib.hid (next HB5.out hb6); have HX6 := Lib.hid (row_u16 hown6); have HX46 := Lib.hid ((HX4.out.next HB45.out).next hb6); obtain ⟨A6, c6, rfl⟩ := own_shape1 hown6; rw [List.length_map, ← HM.out] at HX6 ⊢; clear hb6 hown6; have HL6 : Hid (AdB w6 w.heap.size false 0 0) := Lib.hid (Lies.next HL0.out HB6.out)) | (refine wpList_copy_splice rfl (.tmp 60) (.tmp 61) 110 110 rfl 66 Tryz.underlying110 szU16 (some ⟨w6.heap.size, 0, none⟩) A4 8 8 n c4 rfl rfl w6.heap.size 0 (List.replicate 8 (U16 0)) 68 (Lies.new w6 _ _) (a.map U16) HA1.out (copy_srcN (HX46.out.alloc' _) HN.out) HA2.out (fun v hv => by obtain ⟨c, _, rfl⟩ := List.mem_map.1 hv; rfl) w6.heap.size w6 ((Below.refl _ _).alloc (Nat.le_refl _) _) (Nat.le_refl _) ?_; intro w7 hg7 hb7; have HB7 := Lib.hid hb7; have HX7 := Lib.hid (HX6.out.next hb7); clear hb7) | (refine wpList_copy_splice rfl (.tmp 67) (.tmp 68) 110 110 rfl 66 Tryz.underlying110 szU16 (some ⟨w6.heap.size, 0, none⟩) A6 0 0 m c6 rfl rfl w6.heap.size 0 (splice (List.replicate 8 (U16 0)) 0 (a.map U16)) 68 hg7.out [] (Nat.min_zero _).symm (fun h => absurd h (Nat.lt_irrefl 0)) (Nat.zero_le _) (fun v hv => by cases hv) w6.heap.size w6 HB7.out (Nat.le_refl _) ?_; intro w8 hg8 hb8; have HB8 := Lib.hid hb8; have HR8 := Lib.hid (lies_row hg8.out (spl_gap0 HN.out HN8.out) HGL.out); clear hb8) | (go_at_call 98; refine (HNE.out _ _ ?_).mono ?_; exact HR8.out; rintro e w9 ⟨rfl, hb9⟩; have HB9 := Lib.hid (next (next HB6.out HB8.out) hb9); have HL9 : Hid (AdB w9 w.heap.size false 0 0) := Lib.hid (Lies.next HL0.out HB9.out); obtain ⟨⟨hc0, hc1, hc2⟩, hf0, hf1, hf2⟩ := HL9.out.facts; clear hb9) | fail)
                refine bodyPost_ret (ret_ad2 rfl _ _ w.heap.size (true, r1, r2) rfl (AdB.put HL9.out _ _ _)) rfl ?_
                exact ⟨rfl, put3 (next HB0.out HB9.out) (Nat.le_refl _) _ _ _⟩
              · have HN8 : Hid (n + mi + b.length = 8) := Lib.hid (by omega)
                have HA3 : Hid ((b.map U16).length = Nat.min m (8 - (n + mi))) := Lib.hid (by rw [List.length_map, ← hm]; exact (Nat.min_eq_left (by omega)).symm)
                have HA4 : Hid ((n + mi) + (b.map U16).length ≤ (splice (List.replicate 8 (U16 0)) 0 (a.map U16)).length) := Lib.hid (by rw [length_splice _ _ _ HA2.out, List.length_map, List.length_replicate]; omega)
                have hv2 : IntKind.i64.wrap ((8 : Int) - n - m) = mi := by rw [IntWalk.i64_in _ (by omega)]; omega
                have hv3 : IntKind.i64.wrap ((n : Int) + mi) = ((n + mi : Nat) : Int) := by rw [IntWalk.i64_in _ (by omega)]; omega
                have hv4 : ¬ ((mi : Int) < 0) := by omega
                have hv5 : 0 < mi := by omega
                have hv6 : (0 : Int) ≤ (n : Int) + mi := by omega
                have hv7 : (n : Int) + mi ≤ 8 := by omega
                have hv8 : ¬ (8 = n + mi) := by omega
                obtain ⟨r1, r2, hr⟩ : ∃ r1 r2, newerA 65536 (gapG a b) = (true, r1, r2) := ⟨_, _, rfl⟩
                rw [hr] at HNE ⊢
                simp only [av] at HNE
                have HN := Lib.hid hn
                have HM := Lib.hid hm
                clear hn hm hal hbl hw1 hw2 hn1 hp1 h9 h8 hmi hmB
                go_enter Tryz.func50, Tryz.ntmps50
                go_wp2_with (first | (go_at_call 95; rw [← hw0]; (with_reducible refine HW.out.mono ?_); rintro e w1 ⟨rfl, hb1⟩; have HB1 := Lib.hid hb1; clear hb1) | (go_at_call 82; (with_reducible refine (HC.out _ (HG0.out.next HB1.out)).mono ?_); rintro e w2 ⟨rfl, hb2⟩; have HB2 := Lib.hid (next HB1.out hb2); clear hb2) | (go_at_call 93; (with_reducible refine (HSX.out _ (HG0.out.next HB2.out)).mono ?_); rintro e w3 ⟨v3, rfl, ⟨A3, n3, c3, rfl⟩, hb3, hE3⟩; have HB3 := Lib.hid (next HB2.out hb3); have HE3 := Lib.hid (hE3 w3 (HG0.out.next HB3.out) rfl); clear hb3 hE3) | (go_at_call 96; rw [ha] at HE3; (with_reducible refine HE3.out.mono ?_); rintro e w4 ⟨hb4, v4, rfl, hown4⟩; have HB4 := Lib.hid (next HB3.out hb4); have HX4 := Lib.hid (row_u16 hown4); obtain ⟨A4, c4, rfl⟩ := own_shape1 hown4; rw [List.length_map, ← HN.out] at HX4 ⊢; clear hb4 hown4) | (go_at_call 93; (with_reducible refine (HSY.out _ (HG0.out.next HB4.out)).mono ?_); rintro e w5 ⟨v5, rfl, ⟨A5, n5, c5, rfl⟩, hb5, hE5⟩; have HB5 := Lib.hid (next HB4.out hb5); have HB45 := Lib.hid hb5; have HE5 := Lib.hid (hE5 w5 (HG0.out.next HB5.out) rfl); clear hb5 hE5) | (go_at_call 96; rw [hb] at HE5; (with_reducible refine HE5.out.mono ?_); rintro e w6 ⟨hb6, v6, rfl, hown6⟩; have HB6 := Lib.hid (next HB5.out hb6); have HX6 := Lib.hid (row_u16 hown6); have HX46 := Lib.hid ((HX4.out.next HB45.out).next hb6); obtain ⟨A6, c6, rfl⟩ := own_shape1 hown6; rw [List.length_map, ← HM.out] at HX6 ⊢; clear hb6 hown6; have HL6 : Hid (AdB w6 w.heap.size false 0 0) := Lib.hid (Lies.next HL0.out HB6.out)) | (refine wpList_copy_splice rfl (.tmp 60) (.tmp 61) 110 110 rfl 66 Tryz.underlying110 szU16 (some ⟨w6.heap.size, 0, none⟩) A4 8 8 n c4 rfl rfl w6.heap.size 0 (List.replicate 8 (U16 0)) 68 (Lies.new w6 _ _) (a.map U16) HA1.out (copy_srcN (HX46.out.alloc' _) HN.out) HA2.out (fun v hv => by obtain ⟨c, _, rfl⟩ := List.mem_map.1 hv; rfl) w6.heap.size w6 ((Below.refl _ _).alloc (Nat.le_refl _) _) (Nat.le_refl _) ?_; intro w7 hg7 hb7; have HB7 := Lib.hid hb7; have HX7 := Lib.hid (HX6.out.next hb7); clear hb7) | (refine wpList_copy_splice rfl (.tmp 67) (.tmp 68) 110 110 rfl 66 Tryz.underlying110 szU16 (some ⟨w6.heap.size, n + mi, none⟩) A6 (8 - (n + mi)) (8 - (n + mi)) m c6 rfl rfl w6.heap.size (n + mi) (splice (List.replicate 8 (U16 0)) 0 (a.map U16)) 68 hg7.out (b.map U16) HA3.out (copy_srcN HX7.out HM.out) HA4.out (fun v hv => by obtain ⟨c, _, rfl⟩ := List.mem_map.1 hv; rfl) w6.heap.size w6 HB7.out (Nat.le_refl _) ?_; intro w8 hg8 hb8; have HB8 := Lib.hid hb8; have HR8 := Lib.hid (lies_row hg8.out (spl_gap (mi := mi) HN.out HN8.out) HGL.out); clear hb8) | (go_at_call 98; refine (HNE.out _ _ ?_).mono ?_; exact HR8.out; rintro e w9 ⟨rfl, hb9⟩; have HB9 := Lib.hid (next (next HB6.out HB8.out) hb9); have HL9 : Hid (AdB w9 w.heap.size false 0 0) := Lib.hid (Lies.next HL0.out HB9.out); obtain ⟨⟨hc0, hc1, hc2⟩, hf0, hf1, hf2⟩ := HL9.out.facts; clear hb9) | fail)
                refine bodyPost_ret (ret_ad2 rfl _ _ w.heap.size (true, r1, r2) rfl (AdB.put HL9.out _ _ _)) rfl ?_
                exact ⟨rfl, put3 (next HB0.out HB9.out) (Nat.le_refl _) _ _ _⟩
          · have hz : IntKind.i64.wrap ((8 : Int) - a.length - b.length) = 0 := by rw [hw2]; omega
            have ha8 : a.length ≤ 8 := by omega
            clear hw2 hn1
            cases gp with
            | true =>
              rw [if_pos (.inr (by simp [h8]))]
              go_enter Tryz.func50, Tryz.ntmps50
              go_wp2_with (first | (go_at_call 95; rw [← hw0]; (with_reducible refine HW.out.mono ?_); rintro e w1 ⟨rfl, hb1⟩; have HB1 := Lib.hid hb1; clear hb1) | (go_at_call 82; (with_reducible refine (HC.out _ (HG0.out.next HB1.out)).mono ?_); rintro e w2 ⟨rfl, hb2⟩; have HB2 := Lib.hid (next HB1.out hb2); clear hb2) | (go_at_call 93; (with_reducible refine (HSX.out _ (HG0.out.next HB2.out)).mono ?_); rintro e w3 ⟨v3, rfl, ⟨A3, n3, c3, rfl⟩, hb3, hE3⟩; have HB3 := Lib.hid (next HB2.out hb3); have HE3 := Lib.hid (hE3 w3 (HG0.out.next HB3.out) rfl); clear hb3 hE3) | (go_at_call 96; rw [ha] at HE3; (with_reducible refine HE3.out.mono ?_); rintro e w4 ⟨hb4, v4, rfl, hown4⟩; have HB4 := Lib.hid (next HB3.out hb4); have HX4 := Lib.hid (row_u16 hown4); obtain ⟨A4, c4, rfl⟩ := own_shape1 hown4; rw [List.length_map] at HX4 ⊢; clear hb4 hown4) | (go_at_call 93; (with_reducible refine (HSY.out _ (HG0.out.next HB4.out)).mono ?_); rintro e w5 ⟨v5, rfl, ⟨A5, n5, c5, rfl⟩, hb5, hE5⟩; have HB5 := Lib.hid (next HB4.out hb5); have HB45 := Lib.hid hb5; have HE5 := Lib.hid (hE5 w5 (HG0.out.next HB5.out) rfl); clear hb5 hE5) | (go_at_call 96; rw [hb] at HE5; (with_reducible refine HE5.out.mono ?_); rintro e w6 ⟨hb6, v6, rfl, hown6⟩; have HB6 := Lib.hid (next HB5.out hb6); have HX6 := Lib.hid (row_u16 hown6); have HX46 := Lib.hid ((HX4.out.next HB45.out).next hb6); obtain ⟨A6, c6, rfl⟩ := own_shape1 hown6; rw [List.length_map] at HX6 ⊢; clear hb6 hown6; have HL6 : Hid (AdB w6 w.heap.size false 0 0) := Lib.hid (Lies.next HL0.out HB6.out); obtain ⟨⟨hc0, hc1, hc2⟩, hf0, hf1, hf2⟩ := HL6.out.facts; skip) | fail)
              refine bodyPost_ret (ret_ad2 rfl _ _ w.heap.size noA rfl (AdB.put HL6.out _ _ _)) rfl ?_
              exact ⟨rfl, put3 (next HB0.out HB6.out) (Nat.le_refl _) _ _ _⟩
            | false =>
              rw [if_neg (by simp [h8]; omega)]
              obtain ⟨n, hn⟩ : ∃ n, n = a.length := ⟨_, rfl⟩
              obtain ⟨m, hm⟩ : ∃ m, m = b.length := ⟨_, rfl⟩
              obtain ⟨mi, hmi⟩ : ∃ mi, mi = 8 - n - m := ⟨_, rfl⟩
              have HNE := Lib.hid (fun v wx hx => newerU8_any (gapG a b) v wx hx (gap_len (by omega)) (gap_lt (grpsO_lt ha) (grpsO_lt hb)))
              have HGL := Lib.hid (gap_len (a := a) (b := b) (by omega))
              have HA1 : Hid ((a.map U16).length = Nat.min n 8) := Lib.hid (by rw [List.length_map, ← hn]; exact (Nat.min_eq_left (by omega)).symm)
              have HA2 : Hid (0 + (a.map U16).length ≤ (List.replicate 8 (U16 0)).length) := Lib.hid (by rw [List.length_map, List.length_replicate]; omega)
              have hv1 : IntKind.i64.wrap ((8 : Int) - n) = (8 : Int) - n := IntWalk.i64_in _ (by omega)
              by_cases hmB : m = 0
              · have HN8 : Hid (n + 0 = 8) := Lib.hid (by omega)
                have hv2 : IntKind.i64.wrap ((8 : Int) - n - m) = 0 := by rw [IntWalk.i64_in _ (by omega)]; omega
                have hv3 : IntKind.i64.wrap (n : Int) = 8 := by rw [IntWalk.i64_in _ (by omega)]; omega
                obtain rfl : b = [] := List.eq_nil_of_length_eq_zero (by omega)
                obtain ⟨r1, r2, hr⟩ : ∃ r1 r2, newerA 65536 (gapG a []) = (true, r1, r2) := ⟨_, _, rfl⟩
                rw [hr] at HNE ⊢
                simp only [av] at HNE
                have HN := Lib.hid hn
                have HM := Lib.hid hm
                clear hn hm hal hbl hw1 hz ha8 h9 h8 hmi hmB
                go_enter Tryz.func50, Tryz.ntmps50
                go_wp2_with (first | (go_at_call 95; rw [← hw0]; (with_reducible refine HW.out.mono ?_); rintro e w1 ⟨rfl, hb1⟩; have HB1 := Lib.hid hb1; clear hb1) | (go_at_call 82; (with_reducible refine (HC.out _ (HG0.out.next HB1.out)).mono ?_); rintro e w2 ⟨rfl, hb2⟩; have HB2 := Lib.hid (next HB1.out hb2); clear hb2) | (go_at_call 93; (with_reducible refine (HSX.out _ (HG0.out.next HB2.out)).mono ?_); rintro e w3 ⟨v3, rfl, ⟨A3, n3, c3, rfl⟩, hb3, hE3⟩; have HB3 := Lib.hid (next HB2.out hb3); have HE3 := Lib.hid (hE3 w3 (HG0.out.next HB3.out) rfl); clear hb3 hE3) | (go_at_call 96; rw [ha] at HE3; (with_reducible refine HE3.out.mono ?_); rintro e w4 ⟨hb4, v4, rfl, hown4⟩; have HB4 := Lib.hid (next HB3.out hb4); have HX4 := Lib.hid (row_u16 hown4); obtain ⟨A4, c4, rfl⟩ := own_shape1 hown4; rw [List.length_map, ← HN.out] at HX4 ⊢; clear hb4 hown4) | (go_at_call 93; (with_reducible refine (HSY.out _ (HG0.out.next HB4.out)).mono ?_); rintro e w5 ⟨v5, rfl, ⟨A5, n5, c5, rfl⟩, hb5, hE5⟩; have HB5 := Lib.hid (next HB4.out hb5); have HB45 := Lib.hid hb5; have HE5 := Lib.hid (hE5 w5 (HG0.out.next HB5.out) rfl); clear hb5 hE5) | (go_at_call 96; rw [hb] at HE5; (with_reducible refine HE5.out.mono ?_); rintro e w6 ⟨hb6, v6, rfl, hown6⟩; have HB6 := Lib.hid (next HB5.out hb6); have HX6 := Lib.hid (row_u16 hown6); have HX46 := Lib.hid ((HX4.out.next HB45.out).next hb6); obtain ⟨A6, c6, rfl⟩ := own_shape1 hown6; rw [List.length_map, ← HM.out] at HX6 ⊢; clear hb6 hown6; have HL6 : Hid (AdB w6 w.heap.size false 0 0) := Lib.hid (Lies.next HL0.out HB6.out)) | (refine wpList_copy_splice rfl (.tmp 60) (.tmp 61) 110 110 rfl 66 Tryz.underlying110 szU16 (some ⟨w6.heap.size, 0, none⟩) A4 8 8 n c4 rfl rfl w6.heap.size 0 (List.replicate 8 (U16 0)) 68 (Lies.new w6 _ _) (a.map U16) HA1.out (copy_srcN (HX46.out.alloc' _) HN.out) HA2.out (fun v hv => by obtain ⟨c, _, rfl⟩ := List.mem_map.1 hv; rfl) w6.heap.size w6 ((Below.refl _ _).alloc (Nat.le_refl _) _) (Nat.le_refl _) ?_; intro w7 hg7 hb7; have HB7 := Lib.hid hb7; have HX7 := Lib.hid (HX6.out.next hb7); clear hb7) | (refine wpList_copy_splice rfl (.tmp 67) (.tmp 68) 110 110 rfl 66 Tryz.underlying110 szU16 (some ⟨w6.heap.size, 0, none⟩) A6 0 0 m c6 rfl rfl w6.heap.size 0 (splice (List.replicate 8 (U16 0)) 0 (a.map U16)) 68 hg7.out [] (Nat.min_zero _).symm (fun h => absurd h (Nat.lt_irrefl 0)) (Nat.zero_le _) (fun v hv => by cases hv) w6.heap.size w6 HB7.out (Nat.le_refl _) ?_; intro w8 hg8 hb8; have HB8 := Lib.hid hb8; have HR8 := Lib.hid (lies_row hg8.out (spl_gap0 HN.out HN8.out) HGL.out); clear hb8) | (go_at_call 98; refine (HNE.out _ _ ?_).mono ?_; exact HR8.out; rintro e w9 ⟨rfl, hb9⟩; have HB9 := Lib.hid (next (next HB6.out HB8.out) hb9); have HL9 : Hid (AdB w9 w.heap.size false 0 0) := Lib.hid (Lies.next HL0.out HB9.out); obtain ⟨⟨hc0, hc1, hc2⟩, hf0, hf1, hf2⟩ := HL9.out.facts; clear hb9) | fail)
                refine bodyPost_ret (ret_ad2 rfl _ _ w.heap.size (true, r1, r2) rfl (AdB.put HL9.out _ _ _)) rfl ?_
                exact ⟨rfl, put3 (next HB0.out HB9.out) (Nat.le_refl _) _ _ _⟩
              · have HN8 : Hid (n + 0 + b.length = 8) := Lib.hid (by omega)
                have HA3 : Hid ((b.map U16).length = Nat.min m (8 - (n))) := Lib.hid (by rw [List.length_map, ← hm]; exact (Nat.min_eq_left (by omega)).symm)
                have HA4 : Hid ((n) + (b.map U16).length ≤ (splice (List.replicate 8 (U16 0)) 0 (a.map U16)).length) := Lib.hid (by rw [length_splice _ _ _ HA2.out, List.length_map, List.length_replicate]; omega)
                have hv2 : IntKind.i64.wrap ((8 : Int) - n - m) = 0 := by rw [IntWalk.i64_in _ (by omega)]; omega
                have hv3 : IntKind.i64.wrap (n : Int) = n := IntWalk.i64_in _ (by omega)
                have hv6 : (0 : Int) ≤ n := by omega
                have hv7 : (n : Int) ≤ 8 := by omega
                have hv8 : ¬ (8 = n) := by omega
                obtain ⟨r1, r2, hr⟩ : ∃ r1 r2, newerA 65536 (gapG a b) = (true, r1, r2) := ⟨_, _, rfl⟩
                rw [hr] at HNE ⊢
                simp only [av] at HNE
                have HN := Lib.hid hn
                have HM := Lib.hid hm
                clear hn hm hal hbl hw1 hz ha8 h9 h8 hmi hmB
                go_enter Tryz.func50, Tryz.ntmps50
                go_wp2_with (first | (go_at_call 95; rw [← hw0]; (with_reducible refine HW.out.mono ?_); rintro e w1 ⟨rfl, hb1⟩; have HB1 := Lib.hid hb1; clear hb1) | (go_at_call 82; (with_reducible refine (HC.out _ (HG0.out.next HB1.out)).mono ?_); rintro e w2 ⟨rfl, hb2⟩; have HB2 := Lib.hid (next HB1.out hb2); clear hb2) | (go_at_call 93; (with_reducible refine (HSX.out _ (HG0.out.next HB2.out)).mono ?_); rintro e w3 ⟨v3, rfl, ⟨A3, n3, c3, rfl⟩, hb3, hE3⟩; have HB3 := Lib.hid (next HB2.out hb3); have HE3 := Lib.hid (hE3 w3 (HG0.out.next HB3.out) rfl); clear hb3 hE3) | (go_at_call 96; rw [ha] at HE3; (with_reducible refine HE3.out.mono ?_); rintro e w4 ⟨hb4, v4, rfl, hown4⟩; have HB4 := Lib.hid (next HB3.out hb4); have HX4 := Lib.hid (row_u16 hown4); obtain ⟨A4, c4, rfl⟩ := own_shape1 hown4; rw [List.length_map, ← HN.out] at HX4 ⊢; clear hb4 hown4) | (go_at_call 93; (with_reducible refine (HSY.out _ (HG0.out.next HB4.out)).mono ?_); rintro e w5 ⟨v5, rfl, ⟨A5, n5, c5, rfl⟩, hb5, hE5⟩; have HB5 := Lib.hid (next HB4.out hb5); have HB45 := Lib.hid hb5; have HE5 := Lib.hid (hE5 w5 (HG0.out.next HB5.out) rfl); clear hb5 hE5) | (go_at_call 96; rw [hb] at HE5; (with_reducible refine HE5.out.mono ?_); rintro e w6 ⟨hb6, v6, rfl, hown6⟩; have HB6 := Lib.hid (next HB5.out hb6); have HX6 := Lib.hid (row_u16 hown6); have HX46 := Lib.hid ((HX4.out.next HB45.out).next hb6); obtain ⟨A6, c6, rfl⟩ := own_shape1 hown6; rw [List.length_map, ← HM.out] at HX6 ⊢; clear hb6 hown6; have HL6 : Hid (AdB w6 w.heap.size false 0 0) := Lib.hid (Lies.next HL0.out HB6.out)) | (refine wpList_copy_splice rfl (.tmp 60) (.tmp 61) 110 110 rfl 66 Tryz.underlying110 szU16 (some ⟨w6.heap.size, 0, none⟩) A4 8 8 n c4 rfl rfl w6.heap.size 0 (List.replicate 8 (U16 0)) 68 (Lies.new w6 _ _) (a.map U16) HA1.out (copy_srcN (HX46.out.alloc' _) HN.out) HA2.out (fun v hv => by obtain ⟨c, _, rfl⟩ := List.mem_map.1 hv; rfl) w6.heap.size w6 ((Below.refl _ _).alloc (Nat.le_refl _) _) (Nat.le_refl _) ?_; intro w7 hg7 hb7; have HB7 := Lib.hid hb7; have HX7 := Lib.hid (HX6.out.next hb7); clear hb7) | (refine wpList_copy_splice rfl (.tmp 67) (.tmp 68) 110 110 rfl 66 Tryz.underlying110 szU16 (some ⟨w6.heap.size, n, none⟩) A6 (8 - (n)) (8 - (n)) m c6 rfl rfl w6.heap.size (n) (splice (List.replicate 8 (U16 0)) 0 (a.map U16)) 68 hg7.out (b.map U16) HA3.out (copy_srcN HX7.out HM.out) HA4.out (fun v hv => by obtain ⟨c, _, rfl⟩ := List.mem_map.1 hv; rfl) w6.heap.size w6 HB7.out (Nat.le_refl _) ?_; intro w8 hg8 hb8; have HB8 := Lib.hid hb8; have HR8 := Lib.hid (lies_row hg8.out (spl_gap (mi := 0) HN.out HN8.out) HGL.out); clear hb8) | (go_at_call 98; refine (HNE.out _ _ ?_).mono ?_; exact HR8.out; rintro e w9 ⟨rfl, hb9⟩; have HB9 := Lib.hid (next (next HB6.out HB8.out) hb9); have HL9 : Hid (AdB w9 w.heap.size false 0 0) := Lib.hid (Lies.next HL0.out HB9.out); obtain ⟨⟨hc0, hc1, hc2⟩, hf0, hf1, hf2⟩ := HL9.out.facts; clear hb9) | fail)
                refine bodyPost_ret (ret_ad2 rfl _ _ w.heap.size (true, r1, r2) rfl (AdB.put HL9.out _ _ _)) rfl ?_
                exact ⟨rfl, put3 (next HB0.out HB9.out) (Nat.le_refl _) _ _ _⟩
end Go.Proofs.YtpmlldgjbmingaaGreatDoor
namespace Go.Proofs.YtpmlldgjbmingaaGreatDoor
open Go.RowKit
set_option linter.unusedVariables false

set_option maxHeartbeats 4000000 in
theorem aRead_any (s : ByteArray) (w : World) (hs : s.size ≤ 900000) (hG : Ground w) :
    Calls Tryz.prog 8 #[.string s] w fun e w' => e = .returned (.tuple #[av (rdA (bs s)).1, .int .i64 (rdA (bs s)).2]) ∧ Below w.heap.size w w' := by
  obtain ⟨w0, hw0⟩ : ∃ w0, w0 = w.alloc (.cells #[.bool false, .int .u64 0, .int .u64 0] 24) := ⟨_, rfl⟩
  have hb0 : Below w.heap.size w w0 := by rw [hw0]; exact (Below.refl _ _).alloc (Nat.le_refl _) _
  have HB0 := Lib.hid hb0
  have HG0 := Lib.hid (hG.next hb0)
  have HL0 : Hid (AdB w0 w.heap.size false 0 0) := Lib.hid (by rw [hw0]; exact Lies.new _ _ _)
  have HC : Hid (Calls Tryz.prog 49 #[.string s, .string ⟨#[58]⟩] w0 fun e w' => e = .returned (.bool (Lib.contains (bs s) [58])) ∧ w' = w0) := Lib.hid (by
    obtain ⟨m, hm⟩ := HG0.out.maxlen
    exact Tryz.strings_Contains s ⟨#[58]⟩ m w0 (by omega) hm)
  have HE := Lib.hid (readElder_any s w0 (by omega) HG0.out)
  have HN := Lib.hid (readNewer_any s w0 hs HG0.out)
  unfold rdA readO
  clear hb0 hG
  cases hc : Lib.contains (bs s) [58] with
  | false =>
    rw [hc] at HC
    rw [if_neg (by simp)]
    cases ho : eldO (bs s) with
    | none =>
      rw [ho] at HE
      simp only [optA, noA, av] at HE ⊢
      go_enter Tryz.func8, Tryz.ntmps8
      go_wp2_with (first | (go_at_call 49; rw [← hw0]; (with_reducible refine HC.out.mono ?_); rintro e w' ⟨rfl, rfl⟩) | (go_at_call 48; rw [← hw0]; (with_reducible refine HE.out.mono ?_); rintro e w1 ⟨rfl, hb1⟩; have HB1 := Lib.hid hb1; clear hb1; have HL1 : Hid (AdB w1 w.heap.size false 0 0) := Lib.hid (Lies.next HL0.out HB1.out); have HL2 : Hid (AdB (w1.alloc (.cells #[.bool false, .int .u64 0, .int .u64 0] 24)) w.heap.size false 0 0) := Lib.hid (Lies.next HL1.out ((Below.refl _ _).alloc (Nat.le_refl _) _)); obtain ⟨⟨hc0, hc1, hc2⟩, hf0, hf1, hf2⟩ := HL2.out.facts; skip) | fail)
      refine bodyPost_ret (ret_ad2 rfl _ _ w.heap.size noA rfl (AdB.put HL2.out _ _ _)) rfl ?_
      exact ⟨rfl, put3 (next HB0.out (HB1.out.alloc HB1.out.size _)) (Nat.le_refl _) _ _ _⟩
    | some a =>
      obtain ⟨six, hi, lo⟩ := a
      rw [ho] at HE
      simp only [optA, av] at HE ⊢
      go_enter Tryz.func8, Tryz.ntmps8
      go_wp2_with (first | (go_at_call 49; rw [← hw0]; (with_reducible refine HC.out.mono ?_); rintro e w' ⟨rfl, rfl⟩) | (go_at_call 48; rw [← hw0]; (with_reducible refine HE.out.mono ?_); rintro e w1 ⟨rfl, hb1⟩; have HB1 := Lib.hid hb1; clear hb1; have HL1 : Hid (AdB w1 w.heap.size false 0 0) := Lib.hid (Lies.next HL0.out HB1.out); have HL2 : Hid (AdB (w1.alloc (.cells #[.bool six, .int .u64 (hi : Int), .int .u64 (lo : Int)] 24)) w.heap.size false 0 0) := Lib.hid (Lies.next HL1.out ((Below.refl _ _).alloc (Nat.le_refl _) _)); obtain ⟨⟨hc0, hc1, hc2⟩, hf0, hf1, hf2⟩ := HL2.out.facts; skip) | fail)
      refine bodyPost_ret (ret_ad2 rfl _ _ w.heap.size (six, hi, lo) rfl (AdB.put HL2.out _ _ _)) rfl ?_
      exact ⟨rfl, put3 (next HB0.out (HB1.out.alloc HB1.out.size _)) (Nat.le_refl _) _ _ _⟩
  | true =>
    rw [hc] at HC
    rw [if_pos rfl]
    cases ho : newO (bs s) with
    | none =>
      rw [ho] at HN
      simp only [optA, noA, av] at HN ⊢
      go_enter Tryz.func8, Tryz.ntmps8
      go_wp2_with (first | (go_at_call 49; rw [← hw0]; (with_reducible refine HC.out.mono ?_); rintro e w' ⟨rfl, rfl⟩) | (go_at_call 50; rw [← hw0]; (with_reducible refine HN.out.mono ?_); rintro e w1 ⟨rfl, hb1⟩; have HB1 := Lib.hid hb1; clear hb1; have HL1 : Hid (AdB w1 w.heap.size false 0 0) := Lib.hid (Lies.next HL0.out HB1.out); have HL2 : Hid (AdB (w1.alloc (.cells #[.bool false, .int .u64 0, .int .u64 0] 24)) w.heap.size false 0 0) := Lib.hid (Lies.next HL1.out ((Below.refl _ _).alloc (Nat.le_refl _) _)); obtain ⟨⟨hc0, hc1, hc2⟩, hf0, hf1, hf2⟩ := HL2.out.facts; skip) | fail)
      refine bodyPost_ret (ret_ad2 rfl _ _ w.heap.size noA rfl (AdB.put HL2.out _ _ _)) rfl ?_
      exact ⟨rfl, put3 (next HB0.out (HB1.out.alloc HB1.out.size _)) (Nat.le_refl _) _ _ _⟩
    | some a =>
      obtain ⟨six, hi, lo⟩ := a
      rw [ho] at HN
      simp only [optA, av] at HN ⊢
      go_enter Tryz.func8, Tryz.ntmps8
      go_wp2_with (first | (go_at_call 49; rw [← hw0]; (with_reducible refine HC.out.mono ?_); rintro e w' ⟨rfl, rfl⟩) | (go_at_call 50; rw [← hw0]; (with_reducible refine HN.out.mono ?_); rintro e w1 ⟨rfl, hb1⟩; have HB1 := Lib.hid hb1; clear hb1; have HL1 : Hid (AdB w1 w.heap.size false 0 0) := Lib.hid (Lies.next HL0.out HB1.out); have HL2 : Hid (AdB (w1.alloc (.cells #[.bool six, .int .u64 (hi : Int), .int .u64 (lo : Int)] 24)) w.heap.size false 0 0) := Lib.hid (Lies.next HL1.out ((Below.refl _ _).alloc (Nat.le_refl _) _)); obtain ⟨⟨hc0, hc1, hc2⟩, hf0, hf1, hf2⟩ := HL2.out.facts; skip) | fail)
      refine bodyPost_ret (ret_ad2 rfl _ _ w.heap.size (six, hi, lo) rfl (AdB.put HL2.out _ _ _)) rfl ?_
      exact ⟨rfl, put3 (next HB0.out (HB1.out.alloc HB1.out.size _)) (Nat.le_refl _) _ _ _⟩
end Go.Proofs.YtpmlldgjbmingaaGreatDoor
