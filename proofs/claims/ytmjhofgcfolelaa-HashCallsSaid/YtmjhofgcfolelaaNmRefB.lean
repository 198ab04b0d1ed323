/-
  What the document's own Make answers for layer 2: the walk. Conditions: as the theorem names them.
-/
import Derived.Test.YtmjhofgcfolelaaNmRefA
import Derived.Test.YtmjhofgcfolelaaNmRest
import Derived.RegionTactic
import Derived.BigRegion
namespace Go.Proofs.Ytmjhofgcfolelaa
open Go.RowKit
set_option linter.unusedVariables false

/-- The relations of Make's loops. -/
def RmRel (L : List ByteArray) (i : Value) : Prop := ∃ k : Nat, i = .int .i64 k ∧ k ≤ L.length ∧ Hid (okN ((L.map bs).take k))
def RnRel (L : List ByteArray) (w : World) (s i : Value) (wr : World) : Prop :=
  ∃ (k : Nat) (S : ByteArray), i = .int .i64 k ∧ k ≤ L.length ∧ s = .string S ∧ S.size ≤ 254 ∧ Hid (bs S = enc ((L.map bs).take k)) ∧ Below w.heap.size w wr
theorem cell_block {W : World} {b o : Nat} {v : Value} (h : W.cell? ⟨b, o, none⟩ = some v) : b < W.heap.size := by
  obtain ⟨o', h', _⟩ := cells_of_cell h
  exact (Array.getElem?_eq_some_iff.1 h').1
theorem one_byte (n : Nat) (h : n < 256) : [Value.int .u8 n] = [UInt8.ofNat n].map B := by
  have : (UInt8.ofNat n).toNat = n := UInt8.toNat_ofNat_of_lt' h
  simp only [List.map_cons, List.map_nil, B, this]

theorem conv_one (W : World) (b n : Nat) (h : n < 256) (hc : W.cell? ⟨b, 0, none⟩ = some (.int .u8 n)) : (convert 46 9 (.slice (some ⟨b, 0, none⟩) 1 1)).run Try.prog W = .ok (.string ⟨#[UInt8.ofNat n]⟩) W := by
  refine run_convert_bytes_back W 46 9 5 ⟨b, 0, none⟩ 1 [UInt8.ofNat n] bt.us bt.ub bt.ut fun j hj => ?_
  have : j = 0 := by simpa using hj
  subst this
  have e : (⟨b, 0, none⟩ : Addr).add 0 = ⟨b, 0, none⟩ := by unfold Addr.add; split <;> simp_all
  rw [e, hc]
  have : (UInt8.ofNat n).toNat = n := UInt8.toNat_ofNat_of_lt' h
  simp [this]

set_option maxHeartbeats 4000000 in
theorem rMake_any (sv : Value) (L : List ByteArray) (w : World) (hrow : SRow w sv L) (hn : L.length ≤ 1073741824) (hsz : ∀ x ∈ L, x.size ≤ maxLen) :
    Calls Try.prog 35 #[sv] w (Nm w (mkN (L.map bs))) := by
  obtain ⟨A, cap, rfl, hcap, hcap2⟩ := hrow.shape
  have HS := Lib.hid hsz
  have HW := Lib.hid hrow
  clear hsz hrow
  unfold maxLen at hcap2
  go_enter Try.func35, Try.ntmps35
  go_wp2
  go_loop [5] (fun i => RmRel L i) (fun i => L.length - (intOf i).toNat)
  case atStart => exact ⟨0, rfl, Nat.zero_le _, Lib.hid okN_nil⟩
  case round =>
    obtain ⟨k, rfl, hk, hL⟩ := hrel
    by_cases hlt : k < L.length
    · obtain ⟨g, off, hA, hcell⟩ := HW.out.at hlt
      subst hA
      have hx := HS.out L[k] (List.getElem_mem hlt)
      have HC := Lib.hid (fun wx => rCheck_any L[k] wx hx)
      have HT := Lib.hid (take_one L k hlt)
      have HD := Lib.hid (drop_one L k hlt)
      have i1 : (k : Int) < L.length := by omega
      by_cases hc : chk (bs L[k]) = 0
      · have hbc : ((chk (bs L[k]) : Int) != 0) = false := by rw [hc]; rfl
        have HO : Hid (okN ((L.map bs).take (k + 1))) := Lib.hid (by rw [HT.out]; exact okN_append.2 ⟨hL.out, okN_cons.2 ⟨ok1_chk.2 hc, okN_nil⟩⟩)
        clear hc
        go_wp2_with (go_at_call 44; refine (HC.out _).mono ?_; rintro e w' ⟨rfl, rfl⟩)
        go_round
        case rel => exact ⟨k + 1, by go_num, hlt, HO⟩
        case measure => simp [intOf]; omega
      · have hbc : ((chk (bs L[k]) : Int) != 0) = true := by rw [bne_iff_ne]; omega
        have HP : Hid (mkN (L.map bs) = ([], chk (bs L[k]))) := Lib.hid (by
          have : badL (L.map bs) = chk (bs L[k]) := by
            rw [HD.out, badL_append, if_pos (badL_ok.2 hL.out), badL_cons, if_neg hc]
          unfold mkN
          rw [this, if_neg hc])
        clear hc
        go_wp2_with (go_at_call 44; refine (HC.out _).mono ?_; rintro e w' ⟨rfl, rfl⟩)
        go_ret2
        exact nm_ret _ [] _ _ HP.out rfl rfl (Below.refl _ _)
    · have HOK : Hid (okN (L.map bs)) := Lib.hid (by
        have := hL.out
        rw [List.take_of_length_le (by rw [List.length_map]; omega)] at this
        exact this)
      have HM : Hid (mkN (L.map bs) = named (enc (L.map bs))) := Lib.hid (by unfold mkN; rw [if_pos (badL_ok.2 HOK.out)])
      have hge : ¬ (k : Int) < L.length := by omega
      clear hlt hL
      go_wp2
      go_loopw [4, 7] (fun s i wr => RnRel L w s i wr) (fun _ i _ => L.length - (intOf i).toNat)
      case atStart => exact ⟨0, ⟨#[]⟩, rfl, Nat.zero_le _, rfl, by decide, Lib.hid rfl, Below.refl _ _⟩
      case round =>
        obtain ⟨m, S, rfl, hm, rfl, hS, hE, hb⟩ := hrel
        by_cases hlt : m < L.length
        · obtain ⟨g, off, hA, hcell⟩ := (HW.out.below hb (Nat.le_refl _)).at hlt
          subst hA
          have hok := HOK.out (bs L[m]) (List.mem_map_of_mem (List.getElem_mem hlt))
          have hxs : L[m].size ≤ 63 := by rw [← bs_length]; exact hok.2
          have hb64 : 64 ≤ 255 := by decide
          obtain ⟨x, hx⟩ : ∃ x, x = L[m] := ⟨_, rfl⟩
          rw [← hx] at hcell hxs hok
          have HX := Lib.hid hx
          have i1 : (m : Int) < L.length := by omega
          have hcell2 : (wr.alloc (.cells #[.int .u8 x.size] 5)).drew.cell? ⟨g, off + m, none⟩ = some (.string x) := (((Below.refl wr.heap.size wr).alloc (Nat.le_refl _) (.cells #[.int .u8 x.size] 5)).cell (p := ⟨g, off + m, none⟩) (cell_block hcell)).trans hcell
          have hcv := conv_one (wr.alloc (.cells #[.int .u8 x.size] 5)).drew wr.heap.size x.size (by omega) (Boxed.new wr 5 (.int .u8 x.size)).cell
          clear hok hx
          go_wp2_with fail
          go_region
          obtain ⟨Z, hZ⟩ : ∃ Z, Z = S ++ ⟨#[UInt8.ofNat x.size]⟩ ++ x := ⟨_, rfl⟩
          rw [← hZ]
          have hZb : bs Z = enc ((L.map bs).take (m + 1)) := by
            have e1 : bs ⟨#[UInt8.ofNat x.size]⟩ ++ bs x = enc1 (bs x) := by unfold enc1; rw [bs_length]; rfl
            rw [hZ, bs_append, bs_append, List.append_assoc, e1, hE.out, take_one L m hlt, enc_snoc, ← HX.out]
          have hZl := congrArg List.length hZb
          rw [bs_length] at hZl
          have HZB := Lib.hid hZb
          have hbz := hb.size
          have hbb : Below w.heap.size w (wr.alloc (.cells #[.int .u8 x.size] 5)).drew := (hb.alloc hbz _).drew
          have hpre : (enc ((L.map bs).take (m + 1))).length ≤ (enc (L.map bs)).length := by
            have := congrArg (fun M => (enc M).length) (List.take_append_drop (m + 1) (L.map bs))
            simp only [enc_append, List.length_append] at this
            omega
          by_cases hlong : 254 < Z.size
          · have HP : Hid (mkN (L.map bs) = ([], 3)) := Lib.hid (by rw [HM.out]; unfold named; rw [if_pos (by omega)])
            clear hZ hZb hZl hpre hcv hcell2
            go_wp2
            go_ret2
            exact nm_ret _ [] _ 3 HP.out rfl rfl hbb
          · clear hZ hZb hZl hpre hcv hcell2
            have hz2 : Z.size ≤ 254 := by omega
            go_wp2
            go_roundw
            case rel => exact ⟨m + 1, Z, by go_num, hlt, rfl, hz2, HZB, hbb⟩
            case measure => simp [intOf]; omega
        · have HP : Hid (mkN (L.map bs) = (bs S, 0)) := Lib.hid (by
            rw [HM.out, hE.out, List.take_of_length_le (by rw [List.length_map]; omega)]
            unfold named
            have h1 := congrArg List.length hE.out
            rw [bs_length, List.take_of_length_le (by rw [List.length_map]; omega)] at h1
            rw [if_neg (by omega)])
          have hge2 : ¬ (m : Int) < L.length := by omega
          clear hlt
          go_wp2
          go_ret2
          exact nm_ret _ (bs S) _ 0 HP.out rfl rfl hb
end Go.Proofs.Ytmjhofgcfolelaa
