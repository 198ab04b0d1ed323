/-
  What label.Text answers: the walk. Condition: the string is no longer than Go's own limit.
-/
import Derived.Test.YtjflmifolmpdgaaLabTop
namespace Go.Proofs.Ytjflmifolmpdgaa
open Go.RowKit

theorem info8 : (Try.prog.info? 5).map (fun i => (i.zero, i.size, i.bytes)) = some (some (.int .u8 0), 1, 1) := by kernel_rfl

/-- A call hands back the bytes l, its own from base on. -/
def OwnB (base B0 : Nat) (l : List UInt8) (w : World) (e : Ending) (w' : World) : Prop := ∃ v', e = .returned v' ∧ Own 5 w' base v' l ∧ Below B0 w w' ∧ ∀ g L, Row w g L → Row w' g L

set_option maxHeartbeats 400000 in
theorem appendEscaped_any (base B0 : Nat) (v : Value) (l ds : List UInt8) (g c : Nat) (w : World) (hown : Own 5 w base v l) (hB : B0 ≤ base) (hbase : base ≤ w.heap.size)
    (hg : g < w.heap.size) (hne : some g ≠ v.ownBlock) (hds : ∀ j u, (ds.map B)[j]? = some u → w.cell? ((⟨g, 0, none⟩ : Addr).add j) = some u) (hlen : l.length + 1 + ds.length ≤ 70368744177664) :
    Calls Try.prog 64 #[v, .slice (some ⟨g, 0, none⟩) ds.length c] w (OwnB base B0 (l ++ [92] ++ ds) w) := by
  obtain ⟨A, cap, rfl⟩ := hown.shape
  have hl1 : l.length + [(92 : UInt8)].length ≤ 70368744177664 := by simp; omega
  have hl2 : (l ++ [92]).length + ds.length ≤ 70368744177664 := by simp; omega
  have HDS := Lib.hid hds
  have HNE := Lib.hid hne
  clear hds hne
  go_enter Try.func64, Try.ntmps64
  go_wp2_with (first | (at_builtin; refine wpList_appendB bt _ rfl (.tmp 5) (.tmp 6) rfl base (.slice A l.length cap) l rfl (hown.alloc _) ⟨w.heap.size, 0, none⟩ 1 1 [92] rfl rfl (cellsN _ _ _ [92] rfl _ rfl) hl1 (le_alloc hbase _) ?_; intro v2 w2 hown2 hg2 _; have HG2 := Lib.hid hg2; clear hg2) | (at_builtin; refine wpList_appendB bt _ rfl (.tmp 7) (.tmp 8) rfl base v2 (l ++ [92]) rfl hown2 ⟨g, 0, none⟩ ds.length c ds rfl rfl (cells_grown (cells_alloc HDS.out hg _) (le_alloc hg _) HG2.out HNE.out) hl2 (Nat.le_trans (le_alloc hbase _) HG2.out.size) ?_; intro v3 w3 hown3 hg3 _; have HG3 := Lib.hid hg3; clear hg3))
  go_ret
  refine ⟨v3, rfl, hown3, ?_, fun g L hr => ((hr.alloc _).grown HG2.out ((hown.alloc _).ne_row (hr.alloc (.cells #[.int .u8 92] 5)))).grown HG3.out (hown2.ne_row ((hr.alloc _).grown HG2.out ((hown.alloc _).ne_row (hr.alloc (.cells #[.int .u8 92] 5)))))⟩
  exact (((Below.refl B0 w).alloc (Nat.le_trans hB hbase) _).trans (below_grown HG2.out (hown.alloc _) hB (le_alloc hbase _))).trans (below_grown HG3.out hown2 hB (Nat.le_trans (le_alloc hbase _) HG2.out.size))

/-! ### Text -/
theorem take_more (s : ByteArray) (k : Nat) (h : k < s.size) : (bs s).take (k + 1) = (bs s).take k ++ [s[k]] := by
  rw [List.take_succ_eq_append_getElem (by rw [bs_length]; exact h)]; rfl

theorem d100 : ∀ n, n < 256 → (48 + UInt8.ofNat n / 100).toNat = 48 + (UInt8.ofNat n).toNat / 100 ∧ (48 + UInt8.ofNat n / 10 % 10).toNat = 48 + (UInt8.ofNat n).toNat / 10 % 10 ∧ (48 + UInt8.ofNat n % 10).toNat = 48 + (UInt8.ofNat n).toNat % 10 := by decide +kernel
theorem digits3 (c : UInt8) : [Value.int .u8 (48 + (c.toNat : Int) / 100), Value.int .u8 (48 + (c.toNat : Int) / 10 % 10), Value.int .u8 (48 + (c.toNat : Int) % 10)] = [48 + c / 100, 48 + c / 10 % 10, 48 + c % 10].map B := by
  obtain ⟨h1, h2, h3⟩ := forall_u8 (p := fun c => (48 + c / 100).toNat = 48 + c.toNat / 100 ∧ (48 + c / 10 % 10).toNat = 48 + c.toNat / 10 % 10 ∧ (48 + c % 10).toNat = 48 + c.toNat % 10) d100 c
  simp only [List.map_cons, List.map_nil, B, h1, h2, h3]
  rfl

theorem esc1_not {c : UInt8} (h : vis c = false) : esc1 c = [92] ++ [48 + c / 100, 48 + c / 10 % 10, 48 + c % 10] := by simp [esc1, h, esc3]
theorem esc1_two {c : UInt8} (h : vis c = true) (h2 : c.toNat = 46 ∨ c.toNat = 92) : esc1 c = [92] ++ [c] := by simp only [esc1, h, if_true, if_pos h2]; rfl
theorem esc1_one {c : UInt8} (h : vis c = true) (h2 : ¬ (c.toNat = 46 ∨ c.toNat = 92)) : esc1 c = [c] := by simp only [esc1, h, if_true, if_neg h2]

/-- What Text answers. -/
def txR (l : List UInt8) : List UInt8 := if chk l = 0 then tx l else []
def Tx (w : World) (l : List UInt8) (e : Ending) (w' : World) : Prop := e = .returned (.tuple #[.string ⟨(txR l).toArray⟩, .int .i64 (chk l)]) ∧ Below w.heap.size w w'

def TextRel (s : ByteArray) (w : World) (g : Nat) (i v : Value) (wr : World) : Prop :=
  ∃ k : Nat, i = .int .i64 k ∧ k ≤ s.size ∧ Own 5 wr w.heap.size v (tx ((bs s).take k)) ∧ Row wr g (bs s) ∧ Below w.heap.size w wr

theorem Text_bad (s : ByteArray) (w : World) (hs : s.size ≤ maxLen) (hc : chk (bs s) ≠ 0) :
    Calls Try.prog 44 #[.string s] w (Tx w (bs s)) := by
  have hb : ((chk (bs s) : Int) != 0) = true := by rw [bne_iff_ne]; omega
  have HF := Lib.hid (show txR (bs s) = [] from if_neg hc)
  have HC := Lib.hid (fun wx => Check_any s wx hs)
  clear hc hs
  go_enter Try.func44, Try.ntmps44
  go_wp2_with (go_at_call 53; refine (HC.out _).mono ?_; rintro e w' ⟨rfl, rfl⟩)
  go_ret2
  exact ⟨by rw [HF.out]; rfl, Below.refl _ _⟩

set_option maxHeartbeats 1000000 in
theorem Text_ok (s : ByteArray) (w : World) (hc : chk (bs s) = 0) :
    Calls Try.prog 44 #[.string s] w (Tx w (bs s)) := by
  have hsz : s.size ≤ 63 ∧ 0 < s.size := by
    unfold chk at hc
    rw [bs_length] at hc
    split at hc
    · cases hc
    · split at hc
      · cases hc
      · omega
  obtain ⟨hsz, hpos⟩ := hsz
  have hb : ((chk (bs s) : Int) != 0) = false := by rw [hc]; rfl
  have hm : s.size ≤ maxLen := by unfold maxLen; omega
  have HF := Lib.hid (show txR (bs s) = tx (bs s) from if_pos hc)
  have HC := Lib.hid (fun wx => Check_any s wx hm)
  have HZ := Lib.hid hc
  have HM := Lib.hid hm
  clear hc hm
  obtain ⟨i0, hi, hz0, hz1, hz2⟩ := info_parts info8
  have HI := Lib.hid hi
  have HZ0 := Lib.hid hz0
  have HZ1 := Lib.hid hz1
  have HZ2 : Hid (i0.bytes * s.size ≤ 281474976710656) := by show _ * _ ≤ _; rw [hz2]; omega
  clear hi hz0 hz1 hz2
  go_enter Try.func44, Try.ntmps44
  go_wp2_with (first | (go_at_call 53; refine (HC.out _).mono ?_; rintro e w' ⟨rfl, rfl⟩) | (at_make; refine wpList_make_own _ rfl _ _ 45 rfl w.heap.size 5 i0 (.int .u8 0) 1 Try.underlying45 HI.out HZ0.out HZ1.out .i64 .i64 _ s.size rfl rfl rfl HZ2.out HM.out (Nat.le_refl _) ?_; intro w1 hown1 hg1; have HB1 := Lib.hid ((Below.refl w.heap.size w).grown hg1 (Nat.le_refl _) (by simp)); clear hg1) | (refine wpList_bytes bt _ rfl _ rfl s rfl HM.out ?_; intro cap w2 hrow hb2 _ _ _))
  have HR0 : Hid (TextRel s w w1.heap.size (.int .i64 0) (.slice (some ⟨w.heap.size, 0, none⟩) 0 s.size) w2) :=
    ⟨0, rfl, Nat.zero_le _, Own.below (v := .slice (some ⟨w.heap.size, 0, none⟩) 0 s.size) (l := []) hown1 hb2 (Nat.le_refl _), hrow, HB1.out.trans (hb2.mono HB1.out.size)⟩
  have hg1 : w.heap.size ≤ w1.heap.size := HB1.out.size
  clear HI HZ0 HZ1 HZ2 hown1 hrow hb2 HC HB1
  go_loopw [5, 19] (fun v i wr => TextRel s w w1.heap.size i v wr) (fun _ i _ => s.size - (intOf i).toNat)
  case atStart => exact HR0.out
  case round =>
    clear HR0
    obtain ⟨k, rfl, hk, hown, hrow, hb⟩ := hrel
    obtain ⟨A, vcap, rfl⟩ := hown.shape
    rcases Nat.lt_or_ge k s.size with hlt | hge
    · have hcell : wr.cell? ⟨w1.heap.size, k, none⟩ = some (.int .u8 s[k].toNat) := hrow.cell k (by rw [bs_length]; exact hlt)
      have HT := Lib.hid (take_more s k hlt)
      have htl := tx_len ((bs s).take k)
      rw [List.length_take, bs_length] at htl
      have hgr := hrow.lt
      have hbz := hb.size
      have hc256 := s[k].toNat_lt
      have hklt : min k s.size ≤ k := Nat.min_le_left _ _
      cases hv : vis s[k]
      · have HE := Lib.hid (esc1_not hv)
        have hne : some wr.heap.size ≠ (Value.slice A (tx ((bs s).take k)).length vcap).ownBlock := fun e => by have := (World.ownsRow.lt hown _ e.symm).2; omega
        have HNE := Lib.hid hne
        clear hne
        have hl3 : (tx ((bs s).take k)).length + 1 + [48 + s[k] / 100, 48 + s[k] / 10 % 10, 48 + s[k] % 10].length ≤ 70368744177664 := by simp; omega
        go_wp2_with (first | (go_at_call 63; refine (visible_no _ _ hv).mono ?_; rintro e w' ⟨rfl, rfl⟩) | (go_at_call 64; refine (appendEscaped_any w.heap.size w.heap.size _ (tx ((bs s).take k)) [48 + s[k] / 100, 48 + s[k] / 10 % 10, 48 + s[k] % 10] wr.heap.size 3 _ (hown.alloc _) (Nat.le_refl _) (le_alloc hbz _) (by simp) HNE.out (cellsN _ _ _ _ (digits3 s[k]) _ rfl) hl3).mono ?_; rintro e w' ⟨v', rfl, hown', hb', hrr⟩; have HRR := Lib.hid hrr; clear hrr))
        go_roundw
        case rel =>
          exact ⟨k + 1, by go_num, by omega, by rw [HT.out, tx_snoc, HE.out, ← List.append_assoc]; exact hown', HRR.out _ _ (hrow.alloc _), (hb.alloc hbz _).trans hb'⟩
        case measure => simp [intOf]; omega
      · have hl1 : (tx ((bs s).take k)).length + [s[k]].length ≤ 70368744177664 := by simp; omega
        by_cases h2 : s[k].toNat = 46 ∨ s[k].toNat = 92
        · have HE := Lib.hid (esc1_two hv h2)
          have hne : some wr.heap.size ≠ (Value.slice A (tx ((bs s).take k)).length vcap).ownBlock := fun e => by have := (World.ownsRow.lt hown _ e.symm).2; omega
          have HNE := Lib.hid hne
          clear hne
          have hl3 : (tx ((bs s).take k)).length + 1 + [s[k]].length ≤ 70368744177664 := by simp; omega
          rcases h2 with h2 | h2
          · have hb46 : ((s[k].toNat : Int) == 46) = true := beq_iff_eq.2 (by omega)
            clear h2
            go_wp2_with (first | (go_at_call 63; refine (visible_yes _ _ hv).mono ?_; rintro e w' ⟨rfl, rfl⟩) | (go_at_call 64; refine (appendEscaped_any w.heap.size w.heap.size _ (tx ((bs s).take k)) [s[k]] wr.heap.size 1 _ (hown.alloc _) (Nat.le_refl _) (le_alloc hbz _) (by simp) HNE.out (cellsN _ _ _ _ rfl _ rfl) hl3).mono ?_; rintro e w' ⟨v', rfl, hown', hb', hrr⟩; have HRR := Lib.hid hrr; clear hrr))
            go_roundw
            case rel =>
              exact ⟨k + 1, by go_num, by omega, by rw [HT.out, tx_snoc, HE.out, ← List.append_assoc]; exact hown', HRR.out _ _ (hrow.alloc _), (hb.alloc hbz _).trans hb'⟩
            case measure => simp [intOf]; omega
          · have hb46 : ((s[k].toNat : Int) == 46) = false := beq_eq_false_iff_ne.2 (by omega)
            have hb92 : ((s[k].toNat : Int) == 92) = true := beq_iff_eq.2 (by omega)
            clear h2
            go_wp2_with (first | (go_at_call 63; refine (visible_yes _ _ hv).mono ?_; rintro e w' ⟨rfl, rfl⟩) | (go_at_call 64; refine (appendEscaped_any w.heap.size w.heap.size _ (tx ((bs s).take k)) [s[k]] wr.heap.size 1 _ (hown.alloc _) (Nat.le_refl _) (le_alloc hbz _) (by simp) HNE.out (cellsN _ _ _ _ rfl _ rfl) hl3).mono ?_; rintro e w' ⟨v', rfl, hown', hb', hrr⟩; have HRR := Lib.hid hrr; clear hrr))
            go_roundw
            case rel =>
              exact ⟨k + 1, by go_num, by omega, by rw [HT.out, tx_snoc, HE.out, ← List.append_assoc]; exact hown', HRR.out _ _ (hrow.alloc _), (hb.alloc hbz _).trans hb'⟩
            case measure => simp [intOf]; omega
        · have HE := Lib.hid (esc1_one hv h2)
          have hb46 : ((s[k].toNat : Int) == 46) = false := beq_eq_false_iff_ne.2 (by omega)
          have hb92 : ((s[k].toNat : Int) == 92) = false := beq_eq_false_iff_ne.2 (by omega)
          have HNR := Lib.hid ((hown.alloc (.cells #[.int .u8 s[k].toNat] 5)).ne_row (hrow.alloc _))
          clear h2
          go_wp2_with (first | (go_at_call 63; refine (visible_yes _ _ hv).mono ?_; rintro e w' ⟨rfl, rfl⟩) | (at_builtin; refine wpList_appendB bt _ rfl (.tmp 23) (.tmp 25) rfl w.heap.size (.slice A (tx ((bs s).take k)).length vcap) (tx ((bs s).take k)) rfl (hown.alloc _) ⟨wr.heap.size, 0, none⟩ 1 1 [s[k]] rfl rfl (cellsN _ _ _ _ rfl _ rfl) hl1 (le_alloc hbz _) ?_; intro v2 w2' hown2 hg2 _; have HG2 := Lib.hid hg2; clear hg2))
          go_roundw
          case rel =>
            exact ⟨k + 1, by go_num, by omega, by rw [HT.out, tx_snoc, HE.out]; exact hown2, (hrow.alloc _).grown HG2.out HNR.out, (hb.alloc hbz _).trans (below_grown HG2.out (hown.alloc _) (Nat.le_refl _) (le_alloc hbz _))⟩
          case measure => simp [intOf]; omega
    · have hcv := bt.conv_own hown
      have ht : (bs s).take k = bs s := List.take_of_length_le (by rw [bs_length]; omega)
      have HE : Hid (tx ((bs s).take k) = txR (bs s)) := by rw [ht, HF.out]; exact rfl
      clear ht
      go_wp2
      go_ret2
      refine ⟨?_, hb⟩
      rw [← HE.out, HZ.out]
      rfl

theorem Text_any (s : ByteArray) (w : World) (hs : s.size ≤ maxLen) : Calls Try.prog 44 #[.string s] w (Tx w (bs s)) := by
  by_cases h : chk (bs s) = 0
  · exact Text_ok s w h
  · exact Text_bad s w hs h
end Go.Proofs.Ytjflmifolmpdgaa
