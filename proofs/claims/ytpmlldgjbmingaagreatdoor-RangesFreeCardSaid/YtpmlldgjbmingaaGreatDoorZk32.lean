/-
  An elder text behind the last colon is made two groups: the walk of addr.withoutElder. Conditions: as each theorem names them.
-/
import Derived.Test.YtpmlldgjbmingaaGreatDoorZk31
import Derived.Test.YtpmlldgjbmingaaGreatDoorZk21
namespace Go.Proofs.YtpmlldgjbmingaaGreatDoor
open Go.RowKit
set_option linter.unusedVariables false

theorem last_room (s : List UInt8) : -1 ≤ Lib.lastIndex s [58] ∧ Lib.lastIndex s [58] < s.length ∨ (s = [] ∧ Lib.lastIndex s [58] = -1) := by
  unfold Lib.lastIndex
  split
  · rename_i h
    rcases Lib.lastOcc_spec s [58] (s.length - ([58] : List UInt8).length + 1) with ⟨e, _⟩ | ⟨i, h1, e, _⟩
    · rw [e]; left; simp at h; omega
    · rw [e]; left; simp at h h1; omega
  · rename_i h
    right
    simp at h
    exact ⟨h, rfl⟩
theorem lastK_le (s : List UInt8) : ((lastK s : Nat) : Int) = Lib.lastIndex s [58] + 1 ∧ lastK s ≤ s.length := by
  unfold lastK
  rcases last_room s with ⟨h1, h2⟩ | ⟨rfl, h2⟩
  · omega
  · rw [h2]; decide
theorem eldO_fit {s : List UInt8} {a : Ad} (h : eldO s = some a) : ∃ lo, a = (false, 0, lo) ∧ lo < 4294967296 := by
  unfold eldO ofNumO at h
  split at h
  · cases h
  · rename_i l hl
    split at h
    · rename_i h4
      injection h with h
      refine ⟨jn 256 l, h.symm, ?_⟩
      have := jn_lt (m := 256) (l := l) (eachO_lt (fun x v h => numO_lt h) hl)
      rw [h4] at this
      exact this
    · cases h
/-- What a text is made of. -/
def optS (o : Option (List UInt8)) : Value := match o with
  | some p => .tuple #[.string ⟨p.toArray⟩, .bool true]
  | none => .tuple #[.string ⟨#[]⟩, .bool false]
theorem bs_tail (s : ByteArray) (k : Nat) : bs (s.extract k s.size) = (bs s).drop k := by
  rw [bs_extract, List.take_of_length_le (by rw [List.length_drop, bs_length]; exact Nat.le_refl _)]
theorem bs_head (s : ByteArray) (k : Nat) : bs (s.extract 0 k) = (bs s).take k := by
  rw [bs_extract]
  simp
set_option maxHeartbeats 2000000 in
theorem withoutElder_any (s : ByteArray) (w : World) (hs : s.size ≤ 1000000) (hG : Ground w) :
    Calls Tryz.prog 95 #[.string s] w fun e w' => e = .returned (optS (withO (bs s))) ∧ Below w.heap.size w w' := by
  have HG := Lib.hid hG
  obtain ⟨m, hm⟩ := hG.maxlen
  have HI : Hid (Calls Tryz.prog 135 #[.string s, .string ⟨#[58]⟩] w fun e w' => e = .returned (.int .i64 (Lib.lastIndex (bs s) [58])) ∧ w' = w) := Lib.hid (Tryz.strings_LastIndex s ⟨#[58]⟩ (by omega) w)
  obtain ⟨K, hK⟩ : ∃ K, K = lastK (bs s) := ⟨_, rfl⟩
  have hk := lastK_le (bs s)
  rw [← hK, bs_length] at hk
  obtain ⟨li, hli⟩ : ∃ li, li = Lib.lastIndex (bs s) [58] := ⟨_, rfl⟩
  rw [← hli] at HI hk
  have HC : Hid (∀ wx, Ground wx → Calls Tryz.prog 49 #[.string (s.extract K s.size), .string ⟨#[46]⟩] wx fun e w' => e = .returned (.bool (Lib.contains ((bs s).drop K) [46])) ∧ w' = wx) := Lib.hid (fun wx hg => by
    obtain ⟨m, hm⟩ := hg.maxlen
    have := Tryz.strings_Contains (s.extract K s.size) ⟨#[46]⟩ m wx (by have := extract_size_le s K s.size; omega) hm
    rw [show (s.extract K s.size).data.toList = (bs s).drop K from bs_tail s K] at this
    exact this)
  have hwi : IntKind.i64.wrap (li + 1) = li + 1 := IntWalk.i64_in _ (by omega)
  have hK1 : li + 1 = (K : Int) := by omega
  have hK2 : (K : Int) ≤ (s.size : Int) := by omega
  have hun : withO (bs s) = if Lib.contains ((bs s).drop K) [46] = false then some (bs s) else match eldO ((bs s).drop K) with | none => none | some a => some ((bs s).take K ++ grpT ((grpA a).drop 6)) := by rw [hK]; rfl
  rw [hun]
  clear hun hK hli hm hG hk
  cases hc : Lib.contains ((bs s).drop K) [46] with
  | false =>
    rw [hc] at HC
    rw [if_pos rfl]
    have he : (⟨(bs s).toArray⟩ : ByteArray) = s := bs_inj (bs_mk _)
    simp only [optS, he]
    go_enter Tryz.func95, Tryz.ntmps95
    go_wp2_with (first | (go_at_call 135; (with_reducible refine HI.out.mono ?_); rintro e w' ⟨rfl, rfl⟩) | (go_at_call 49; (with_reducible refine (HC.out _ HG.out).mono ?_); rintro e w' ⟨rfl, rfl⟩) | fail)
    go_ret2
    exact ⟨rfl, Below.refl _ _⟩
  | true =>
    rw [hc] at HC
    rw [if_neg (by simp)]
    have HE := Lib.hid (fun wx hg => readElder_any (s.extract K s.size) wx (Nat.le_trans (extract_size_le s _ _) hs) hg)
    rw [bs_tail] at HE
    cases ho : eldO ((bs s).drop K) with
    | none =>
      rw [ho] at HE
      simp only [optA, noA, av] at HE
      simp only [optS]
      go_enter Tryz.func95, Tryz.ntmps95
      go_wp2_with (first | (go_at_call 135; (with_reducible refine HI.out.mono ?_); rintro e w' ⟨rfl, rfl⟩) | (go_at_call 49; (with_reducible refine (HC.out _ HG.out).mono ?_); rintro e w' ⟨rfl, rfl⟩) | (go_at_call 48; (with_reducible refine (HE.out _ HG.out).mono ?_); rintro e w1 ⟨rfl, hb1⟩; have HB1 := Lib.hid hb1; clear hb1) | fail)
      go_ret2
      exact ⟨rfl, HB1.out.alloc HB1.out.size _⟩
    | some a =>
      obtain ⟨lo, rfl, hlo⟩ := eldO_fit ho
      rw [ho] at HE
      simp only [optA, av] at HE
      have HO : Hid (∀ wx : World, Calls Tryz.prog 55 #[.agg #[.bool false, .int .u64 0, .int .u64 (lo : Int)]] wx fun e w' => e = .returned (gv (grpA (false, 0, lo))) ∧ Below wx.heap.size wx w') := Lib.hid (fun wx => groupsOf_any false 0 lo wx (by decide) (by omega))
      obtain ⟨a1, a2, a3, a4, a5, a6, a7, a8, hgd⟩ := eight (grpA_len (false, 0, lo))
      have hgv : gv (grpA (false, 0, lo)) = .agg #[.int .u16 a1, .int .u16 a2, .int .u16 a3, .int .u16 a4, .int .u16 a5, .int .u16 a6, .int .u16 a7, .int .u16 a8] := by rw [hgd]; rfl
      rw [hgv] at HO
      have HAt : Hid (∀ wx : World, At U16 (wx.alloc (.cells #[.int .u16 a1, .int .u16 a2, .int .u16 a3, .int .u16 a4, .int .u16 a5, .int .u16 a6, .int .u16 a7, .int .u16 a8] 68)) wx.heap.size 0 8 (grpA (false, 0, lo))) := Lib.hid (fun wx => by
        have := At.of_lies (enc := U16) (L := grpA (false, 0, lo)) (Lies.new wx 68 ((grpA (false, 0, lo)).map U16).toArray) rfl (by rw [grpA_len]; decide)
        rw [grpA_len] at this
        rw [hgd] at this ⊢
        exact this)
      have HR : Hid (∀ wx : World, Ground wx → Calls Tryz.prog 103 #[.slice (some ⟨wx.heap.size, 6, none⟩) 2 2] (wx.alloc (.cells #[.int .u16 a1, .int .u16 a2, .int .u16 a3, .int .u16 a4, .int .u16 a5, .int .u16 a6, .int .u16 a7, .int .u16 a8] 68)).drew fun e w' => e = .returned (.string ⟨(grpT ((grpA (false, 0, lo)).drop 6)).toArray⟩) ∧ Below wx.heap.size wx w') := Lib.hid (fun wx hg => by
        have h1 : Below wx.heap.size wx (wx.alloc (.cells #[.int .u16 a1, .int .u16 a2, .int .u16 a3, .int .u16 a4, .int .u16 a5, .int .u16 a6, .int .u16 a7, .int .u16 a8] 68)).drew := ((Below.refl _ _).alloc (Nat.le_refl _) _).drew
        have h2 := ((HAt.out wx).drewN 1).drop (n := 6) (by rw [grpA_len]; decide)
        rw [grpA_len] at h2
        refine (grouped_any ((grpA (false, 0, lo)).drop 6) _ _ h2 (by rw [List.length_drop, grpA_len]; decide) (fun c hc => grpA_lt _ c (List.drop_subset _ _ hc)) (hg.next h1)).mono ?_
        rintro e w' ⟨rfl, hb⟩
        exact ⟨rfl, next h1 hb⟩)
      obtain ⟨X1, hX1⟩ : ∃ X1 : ByteArray, X1 = ⟨(grpT ((grpA (false, 0, lo)).drop 6)).toArray⟩ := ⟨_, rfl⟩
      have hz1 : X1.size ≤ 140737488355328 := by rw [hX1, ← bs_length, bs_mk]; exact grp_len _ (by rw [List.length_drop, grpA_len]; decide)
      have hz0 := extract_size_le s 0 K
      have HF : Hid (s.extract 0 K ++ X1 = ⟨((bs s).take K ++ grpT ((grpA (false, 0, lo)).drop 6)).toArray⟩) := Lib.hid (bs_inj (by rw [bs_append, bs_head, hX1, bs_mk (grpT ((grpA (false, 0, lo)).drop 6)), bs_mk ((bs s).take K ++ grpT ((grpA (false, 0, lo)).drop 6))]))
      simp only [optS]
      rw [← HF.out]
      rw [← hX1] at HR
      have hq : ¬ 9223372036854775807 < (s.extract 0 K).size + X1.size := by omega
      clear hX1 HF hgv hgd HAt ho
      go_enter Tryz.func95, Tryz.ntmps95
      go_wp2_with (first | (go_at_call 135; (with_reducible refine HI.out.mono ?_); rintro e w' ⟨rfl, rfl⟩) | (go_at_call 49; (with_reducible refine (HC.out _ HG.out).mono ?_); rintro e w' ⟨rfl, rfl⟩) | (go_at_call 48; (with_reducible refine (HE.out _ HG.out).mono ?_); rintro e w1 ⟨rfl, hb1⟩; have HB1 := Lib.hid hb1; clear hb1) | (go_at_call 55; (with_reducible refine (HO.out _).mono ?_); rintro e w2 ⟨rfl, hb2⟩; have HB2 := Lib.hid (next (HB1.out.alloc HB1.out.size _) hb2); clear hb2) | fail)
      go_region_with (first | (go_at_call 103; (with_reducible refine (HR.out _ (HG.out.next HB2.out)).mono ?_); rintro e w3 ⟨rfl, hb3⟩; have HB3 := Lib.hid (next HB2.out hb3); clear hb3) | fail)
      all_goals
        try go_wp2
        go_ret2
        exact ⟨rfl, HB3.out⟩
end Go.Proofs.YtpmlldgjbmingaaGreatDoor
