/-
  What label.Check, label.Read answer: the walks. Condition: the string is no longer than Go's own limit.
-/
import Derived.Test.YtjflmifolmpdgaaLabRead
namespace Go.Proofs.Ytjflmifolmpdgaa
open Go.RowKit

theorem Check_any (s : ByteArray) (w : World) (hs : s.size ≤ maxLen) :
    Calls Try.prog 53 #[.string s] w fun e w' => e = .returned (.int .i64 (chk (bs s))) ∧ w = w' := by
  have hl : chk (bs s) = if s.size = 0 then 2 else if 63 < s.size then 3 else 0 := by unfold chk; rw [bs_length]
  have HL := Lib.hid hl
  clear hl
  unfold maxLen at hs
  by_cases h0 : s.size = 0
  · have hz : ((s.size : Int) == 0) = true := beq_iff_eq.2 (by omega)
    have h1 : ¬ (63 : Int) < s.size := by omega
    have HF := Lib.hid (show chk (bs s) = 2 by rw [HL.out, if_pos h0])
    clear h0
    go_enter Try.func53, Try.ntmps53
    go_wp2
    go_ret
    exact ⟨by rw [HF.out]; rfl, rfl⟩
  · have hz : ((s.size : Int) == 0) = false := beq_eq_false_iff_ne.2 (by omega)
    by_cases h1 : 63 < s.size
    · have HF := Lib.hid (show chk (bs s) = 3 by rw [HL.out, if_neg h0, if_pos h1])
      clear h0
      go_enter Try.func53, Try.ntmps53
      go_wp2
      go_ret
      exact ⟨by rw [HF.out]; rfl, rfl⟩
    · have HF := Lib.hid (show chk (bs s) = 0 by rw [HL.out, if_neg h0, if_neg h1])
      clear h0
      go_enter Try.func53, Try.ntmps53
      go_wp2
      go_ret
      exact ⟨by rw [HF.out]; rfl, rfl⟩

/-- What Read answers. -/
def Rd (w : World) (x : List UInt8 × Nat × Nat) (e : Ending) (w' : World) : Prop := e = .returned (.tuple #[.string ⟨x.1.toArray⟩, .int .i64 x.2.1, .int .i64 x.2.2]) ∧ Below w.heap.size w w'
theorem rd_ret {w w' : World} {x : List UInt8 × Nat × Nat} (s : ByteArray) (l : List UInt8) (n er : Int) (k : Nat) (m : Nat) (hx : x = (l, k, m)) (hs : s = ⟨l.toArray⟩) (hn : n = k) (he : er = m) (hb : Below w.heap.size w w') :
    Rd w x (.returned (.tuple #[.string s, .int .i64 n, .int .i64 er])) w' := by
  subst hx; subst hs; subst hn; subst he; exact ⟨rfl, hb⟩

theorem Read_bad (s : ByteArray) (k : Int) (w : World) (hs : s.size ≤ maxLen) (hk : k < 0 ∨ (s.size : Int) < k) :
    Calls Try.prog 40 #[.string s, .int .i64 k] w (Rd w ([], 0, 2)) := by
  unfold maxLen at hs
  rcases hk with hk | hk
  · go_enter Try.func40, Try.ntmps40
    go_wp2
    go_ret3
    exact rd_ret _ [] _ _ 0 2 rfl rfl rfl rfl (Below.refl _ _)
  · have h0 : ¬ k < 0 := by omega
    go_enter Try.func40, Try.ntmps40
    go_wp2
    go_ret3
    exact rd_ret _ [] _ _ 0 2 rfl rfl rfl rfl (Below.refl _ _)

/-- The relation of Read's loop. -/
def ReadRel (s : ByteArray) (w : World) (x : List UInt8 × Nat × Nat) (i v : Value) (wr : World) : Prop :=
  ∃ (k : Nat) (out : List UInt8), i = .int .i64 k ∧ k ≤ s.size ∧ out.length ≤ 63 ∧ Own 5 wr w.heap.size v out ∧ Below w.heap.size w wr ∧ rdF (63 - out.length) ((bs s).drop k) out k = x

set_option maxHeartbeats 1000000 in
theorem Read_any (s : ByteArray) (k0 : Nat) (w : World) (x : List UInt8 × Nat × Nat) (hs : s.size ≤ maxLen) (hk0 : k0 ≤ s.size) (hx : rd (bs s) k0 = x) :
    Calls Try.prog 40 #[.string s, .int .i64 k0] w (Rd w x) := by
  have hr0 : ReadRel s w x (.int .i64 k0) (.slice none 0 0) w := ⟨k0, [], rfl, hk0, by simp, Own.none_ _ _, Below.refl _ _, hx⟩
  have HR := Lib.hid hr0
  clear hr0 hx
  have hs0 := Lib.hid hs
  have hk1 : decide (s.size < k0) = false := decide_eq_false (by omega)
  have hk2 : decide ((k0 : Int) < 0) = false := decide_eq_false (by omega)
  unfold maxLen at hs
  go_enter Try.func40, Try.ntmps40
  go_wp2
  go_loopw [1, 7] (fun i v wr => ReadRel s w x i v wr) (fun i _ _ => s.size - (intOf i).toNat)
  case atStart => exact HR.out
  case round =>
    obtain ⟨k, out, rfl, hk, hout, hown, hb, hx⟩ := hrel
    have HX := Lib.hid hx
    clear hx HR
    obtain ⟨A, cap, rfl⟩ := hown.shape
    have hcv := bt.conv_own hown
    rcases Nat.lt_or_ge k s.size with hlt | hge
    · have hd := drop_at s k hlt
      by_cases h46 : s[k].toNat = 46
      · have hb46 : ((s[k].toNat : Int) != 46) = false := by simp; omega
        have HF : Hid (fin out k = x) := by
          have hx := HX.out
          rw [hd, rdF_dot _ _ _ _ _ h46] at hx
          exact hx
        clear HX h46 hd
        by_cases h0 : out.length = 0
        · have hb0 : ((out.length : Int) == 0) = true := beq_iff_eq.2 (by omega)
          have HE : Hid (x = ([], 0, 2)) := by rw [← HF.out]; exact if_pos h0
          clear h0 HF
          go_wp2
          go_ret3
          exact rd_ret _ [] _ _ 0 2 HE.out rfl rfl rfl hb
        · have hb0 : ((out.length : Int) == 0) = false := beq_eq_false_iff_ne.2 (by omega)
          have HE : Hid (x = (out, k, 0)) := by rw [← HF.out]; exact if_neg h0
          clear h0 HF
          go_wp2
          go_ret3
          exact rd_ret _ out _ _ k 0 HE.out rfl rfl rfl hb
      · have hb46 : ((s[k].toNat : Int) != 46) = true := by simp; omega
        rcases ho : oct ((bs s).drop k) with _ | ⟨c, n⟩
        · have HC := Lib.hid (fun wx => readOctet_none s k wx hs0.out hlt ho)
          have HE : Hid (x = ([], 0, 7)) := by
            rw [hd] at ho
            rw [← HX.out, hd]
            exact rdF_bad _ _ _ _ _ h46 ho
          clear HX ho h46 hd
          go_wp2_with (go_at_call 61; refine (HC.out _).mono ?_; rintro e w1 ⟨rfl, hb1⟩)
          go_ret3
          exact rd_ret _ [] _ _ 0 7 HE.out rfl rfl rfl (hb.trans (hb1.mono hb.size))
        · have HC := Lib.hid (fun wx => readOctet_some s k wx hs0.out hlt c n ho)
          have hn := oct_len ho
          rw [List.length_drop, bs_length] at hn
          by_cases h63 : out.length = 63
          · have hb63 : ((out.length : Int) == 63) = true := beq_iff_eq.2 (by omega)
            have HE : Hid (x = ([], 0, 3)) := by
              rw [hd] at ho
              rw [← HX.out, hd, h63]
              exact rdF_long _ _ _ _ _ h46 ho
            clear HX ho h46 hd h63
            go_wp2_with (go_at_call 61; refine (HC.out _).mono ?_; rintro e w1 ⟨rfl, hb1⟩)
            go_ret3
            exact rd_ret _ [] _ _ 0 3 HE.out rfl rfl rfl (hb.trans (hb1.mono hb.size))
          · have hb63 : ((out.length : Int) == 63) = false := beq_eq_false_iff_ne.2 (by omega)
            have HN : Hid (rdF (63 - (out ++ [c]).length) ((bs s).drop (k + n)) (out ++ [c]) (k + n) = x) := by
              have hx := HX.out
              rw [hd] at ho hx
              rw [show 63 - out.length = (63 - (out ++ [c]).length) + 1 by simp; omega, rdF_step _ _ _ _ _ c n h46 ho, ← hd, List.drop_drop] at hx
              exact hx
            clear HX ho h46 hd hcv
            have hlo : out.length + [c].length ≤ 70368744177664 := by simp; omega
            go_wp2_with (first | (go_at_call 61; refine (HC.out _).mono ?_; rintro e w1 ⟨rfl, hb1⟩; replace hown := hown.below hb1 (Nat.le_refl _); have hz1 := Nat.le_trans hb.size hb1.size) | (at_builtin; refine wpList_appendB bt _ rfl (.tmp 42) (.tmp 44) rfl w.heap.size _ out rfl (hown.alloc _) ⟨w1.heap.size, 0, none⟩ 1 1 [c] rfl rfl (cellsN _ _ _ [c] rfl _ rfl) hlo (le_alloc hz1 _) ?_; intro v2 w2 hown2 hg2 _))
            go_roundw
            case rel =>
              have hrel : ReadRel s w x (.int .i64 (↑k + ↑n)) v2 w2 := ⟨k + n, out ++ [c], by go_num, by omega, by simp; omega, hown2, ((hb.trans (hb1.mono hb.size)).alloc hz1 _).trans (below_grown hg2 (hown.alloc _) (Nat.le_refl _) (le_alloc hz1 _)), HN.out⟩
              exact hrel
            case measure => simp [intOf]; omega
    · have HF : Hid (fin out k = x) := by
        have hx := HX.out
        rw [drop_end s k hge, rdF_nil] at hx
        exact hx
      clear HX
      by_cases h0 : out.length = 0
      · have hb0 : ((out.length : Int) == 0) = true := beq_iff_eq.2 (by omega)
        have HE : Hid (x = ([], 0, 2)) := by rw [← HF.out]; exact if_pos h0
        clear h0 HF
        go_wp2
        go_ret3
        exact rd_ret _ [] _ _ 0 2 HE.out rfl rfl rfl hb
      · have hb0 : ((out.length : Int) == 0) = false := beq_eq_false_iff_ne.2 (by omega)
        have HE : Hid (x = (out, k, 0)) := by rw [← HF.out]; exact if_neg h0
        clear h0 HF
        go_wp2
        go_ret3
        exact rd_ret _ out _ _ k 0 HE.out rfl rfl rfl hb
end Go.Proofs.Ytjflmifolmpdgaa
