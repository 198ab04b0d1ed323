/-
  The walk of the law AddrGroups. Conditions: the laid tables' cells and errors (Ground), eight groups below 2^16.
-/
import Derived.Test.YtjadghmanpkgoaaGreatDoorAdGrM
import Derived.Test.YtjadghmanpkgoaaGreatDoorAdUse
import Derived.Test.YtjadghmanpkgoaaGreatDoorBx
import Derived.Test.YtjadghmanpkgoaaGreatDoorQui
import Derived.Deep.DeepCutAuto
import Derived.Deep.RegionHeld3
namespace Go.Proofs.YtjadghmanpkgoaaGreatDoor
open Go.RowKit
set_option linter.unusedVariables false

theorem adg_equal (s : Bool) (hh hl : Nat) (six : Bool) (hi lo : Nat) (w : World) : (Op.equalIn 10000 24 (.agg #[.bool s, .int .u64 (hh : Int), .int .u64 (hl : Int)]) (.agg #[.bool six, .int .u64 (hi : Int), .int .u64 (lo : Int)])).run Tryz.prog w = .ok (decide (((s, hh, hl) : Ad) = (six, hi, lo))) w := by
  have hS : Tryz.prog.underlying 24 = some (.struct (Tryz.prog.fieldsOf 24)) := by kernel_rfl
  have hp : Tryz.prog.stoodInHeld 24 = false := by kernel_rfl
  rw [show (10000 : Nat) = 9999 + 1 from rfl, run_equalIn_agg w 9999 24 _ _ hS hp]
  simp only [Program.fieldsOf, Tryz.underlying24]
  go_simp
  by_cases h0 : s = six
  · by_cases h1 : hh = hi
    · by_cases h2 : hl = lo
      · simp [h0, h1, h2]
      · simp [h0, h1, h2]; omega
    · simp [h0, h1]; omega
  · simp [h0]
theorem class_ofG (W : World) : ∃ (Ix : Type) (f : Ix → World) (i0 : Ix), W.drew = f i0 ∧ (∀ n, Below W.heap.size W (f n)) ∧ (∀ n w'', Below (f n).heap.size (f n) w'' → ∃ m, w'' = f m) :=
  ⟨{w' // Below W.heap.size W w'}, Subtype.val, ⟨W.drew, ⟨rfl, rfl, rfl, Nat.le_refl _, fun _ _ => rfl⟩⟩, rfl, fun n => n.2, fun n w'' h => ⟨⟨w'', next n.2 h⟩, rfl⟩⟩
theorem digit_at {p : Nat} (h : p < 16) : ∃ X : ByteArray, (⟨#[48, 49, 50, 51, 52, 53, 54, 55, 56, 57, 97, 98, 99, 100, 101, 102]⟩ : ByteArray).extract p (p + 1) = X ∧ bs X = [hexd p] ∧ X.size = 1 := by
  refine ⟨_, rfl, ?_, ?_⟩
  · have : ∀ d : Fin 16, bs ((⟨#[48, 49, 50, 51, 52, 53, 54, 55, 56, 57, 97, 98, 99, 100, 101, 102]⟩ : ByteArray).extract d.val (d.val + 1)) = [hexd d.val] := by decide +kernel
    exact this ⟨p, h⟩
  · have : ∀ d : Fin 16, ((⟨#[48, 49, 50, 51, 52, 53, 54, 55, 56, 57, 97, 98, 99, 100, 101, 102]⟩ : ByteArray).extract d.val (d.val + 1)).size = 1 := by decide +kernel
    exact this ⟨p, h⟩
theorem bs_two {r : ByteArray} (h : 1 < r.size) : ∃ d t, bs r = r[0] :: d :: t := by
  have h1 := drop_at r 0 (by omega)
  rw [List.drop_zero] at h1
  have h2 := drop_at r 1 h
  rw [h2] at h1
  exact ⟨_, _, h1⟩
theorem strip_one {r : ByteArray} (h : r.size = 1) : strip (bs r) = bs r := by
  have hl : (bs r).length = 1 := by rw [bs_length, h]
  match bs r, hl with
  | [c], _ => rfl
/-- The relation of the loop that strikes noughts; its end. -/
def GsRel (wide : Bool) (v : Nat) (w5 : World) (m : Nat) (v9 : Value) (wr : World) : Prop := ∃ r : ByteArray, v9 = .string r ∧ 1 ≤ r.size ∧ r.size ≤ 4 ∧ r.size = m ∧ (if wide then bs r else strip (bs r)) = gT wide v ∧ w5 = wr
def GsEnd (wide : Bool) (v : Nat) (v9 : Value) : Prop := ∃ r : ByteArray, v9 = .string r ∧ r.size ≤ 4 ∧ bs r = gT wide v
/-- The relation of the law's loop. -/
def GrRel (wide : Bool) (G : List Nat) (w : World) (v6 v7 v8 : Value) (wr : World) : Prop :=
  ∃ (k : Nat) (s t : ByteArray), k ≤ 8 ∧ bs s = accT wide G k ∧ bs t = bytesG (G.take k) ∧ v6 = .string s ∧ v7 = .string t ∧ v8 = .int .i64 (k : Nat) ∧ Bx w wr [(w.heap.size, 41, (G.map U16).toArray)]
set_option maxHeartbeats 8000000 in
set_option maxRecDepth 100000 in
theorem AddrGroups_main (wide : Bool) (G : List Nat) (g0 g1 g2 g3 g4 g5 g6 g7 : Nat) (hG0 : G = [g0, g1, g2, g3, g4, g5, g6, g7]) (hlt : ∀ c ∈ G, c < 65536) (w : World) (hG : Ground w) :
    Calls Tryz.prog 4 #[.agg #[.int .u16 (g0 : Int), .int .u16 (g1 : Int), .int .u16 (g2 : Int), .int .u16 (g3 : Int), .int .u16 (g4 : Int), .int .u16 (g5 : Int), .int .u16 (g6 : Int), .int .u16 (g7 : Int)], .bool wide] w fun e w' => e = .returned (.bool true) ∧ Below w.heap.size w w' := by
  have hl : G.length = 8 := by rw [hG0]; rfl
  have HG := Lib.hid (fun wx (hb : Below w.heap.size w wx) => hG.next hb)
  have GL := Lib.hid lives4
  have HS : Hid (Bx w (w.alloc (.cells #[.int .u16 (g0 : Int), .int .u16 (g1 : Int), .int .u16 (g2 : Int), .int .u16 (g3 : Int), .int .u16 (g4 : Int), .int .u16 (g5 : Int), .int .u16 (g6 : Int), .int .u16 (g7 : Int)] 41)) [(w.heap.size, 41, (G.map U16).toArray)]) := Lib.hid (by
    have h1 := (Bx.start w).more 41 #[.int .u16 (g0 : Int), .int .u16 (g1 : Int), .int .u16 (g2 : Int), .int .u16 (g3 : Int), .int .u16 (g4 : Int), .int .u16 (g5 : Int), .int .u16 (g6 : Int), .int .u16 (g7 : Int)]
    rw [hG0]
    exact h1)
  have HL := Lib.hid hl
  have HT := Lib.hid hlt
  clear hG hl hlt hG0
  go_enter Tryz.func4, Tryz.ntmps4
  go_wp2_with fail
  (with_reducible refine (GL.out.go _ (HG.out _ HS.out.bel)).mono ?_)
  rintro e w1 ⟨rfl, hb⟩
  replace HS := Lib.hid (HS.out.next hb)
  clear hb
  go_wp2
  go_loopw [6, 7, 8] (fun v6 v7 v8 wr => GrRel wide G w v6 v7 v8 wr) (fun _ _ v8 _ => 8 - (intOf v8).toNat)
  case atStart => exact ⟨0, ⟨#[]⟩, ⟨#[]⟩, by decide, rfl, rfl, rfl, rfl, rfl, HS.out⟩
  case round =>
    clear HS
    obtain ⟨k, s, t, hk, hs, ht, rfl, rfl, rfl, hS⟩ := hrel
    have HS := Lib.hid hS
    clear hS
    rcases Nat.lt_or_ge k 8 with hlt | hge
    · obtain ⟨v, hv⟩ : ∃ v, v = G.getD k 0 := ⟨_, rfl⟩
      have hgk : G[k]? = some v := by rw [hv, List.getD_eq_getElem?_getD, List.getElem?_eq_getElem (by rw [HL.out]; exact hlt)]; rfl
      have hv6 : v < 65536 := HT.out v (List.mem_of_getElem? hgk)
      have hcs : (G.map U16).toArray[k]? = some (.int .u16 (v : Int)) := by rw [List.getElem?_toArray, List.getElem?_map, hgk]; rfl
      have hkI : (k : Int) < 8 := by omega
      have Hs := Lib.hid hs
      have Ht := Lib.hid ht
      have Hv := Lib.hid hv
      have Hgk := Lib.hid hgk
      clear hs ht hv hgk
      go_upto_region 8 with (fail)
      obtain ⟨Ix, f, i0, hf0, hCn', hstep'⟩ := class_ofG wr
      have HCn := Lib.hid hCn'
      clear hCn' hstep'
      haveI : Nonempty Ix := ⟨i0⟩
      have kc : ∀ m, (f m).cell? ⟨w.heap.size, k, none⟩ = some (.int .u16 (v : Int)) := fun m => (Lies.cell ((HS.out.next (HCn.out m)).at List.mem_cons_self) k).trans hcs
      obtain ⟨p1, hp1⟩ : ∃ p : Nat, p = v / 4096 := ⟨_, rfl⟩
      obtain ⟨p2, hp2⟩ : ∃ p : Nat, p = v / 256 % 16 := ⟨_, rfl⟩
      obtain ⟨p3, hp3⟩ : ∃ p : Nat, p = v / 16 % 16 := ⟨_, rfl⟩
      obtain ⟨p4, hp4⟩ : ∃ p : Nat, p = v % 16 := ⟨_, rfl⟩
      have r1 : p1 < 16 := by omega
      have r2 : p2 < 16 := by omega
      have r3 : p3 < 16 := by omega
      have r4 : p4 < 16 := by omega
      have n1 : (v : Int) / 4096 = (p1 : Int) := by omega
      have n2 : bits BinOp.and IntKind.u16 ((v : Int) / 256) 15 = (p2 : Int) := by
        have := u16_and_nat (v / 256) 15 (by omega) (by decide)
        rw [Nat.and_two_pow_sub_one_eq_mod (v / 256) 4] at this
        rw [hp2]
        exact this
      have n3 : bits BinOp.and IntKind.u16 ((v : Int) / 16) 15 = (p3 : Int) := by
        have := u16_and_nat (v / 16) 15 (by omega) (by decide)
        rw [Nat.and_two_pow_sub_one_eq_mod (v / 16) 4] at this
        rw [hp3]
        exact this
      have n4 : bits BinOp.and IntKind.u16 (v : Int) 15 = (p4 : Int) := by
        have := u16_and_nat v 15 (by omega) (by decide)
        rw [Nat.and_two_pow_sub_one_eq_mod v 4] at this
        rw [hp4]
        exact this
      have s1 : IntKind.u16.wrap ((p1 : Int) + 1) = (p1 : Int) + 1 := IntWalk.u16_in _ (by omega)
      have s2 : IntKind.u16.wrap ((p2 : Int) + 1) = (p2 : Int) + 1 := IntWalk.u16_in _ (by omega)
      have s3 : IntKind.u16.wrap ((p3 : Int) + 1) = (p3 : Int) + 1 := IntWalk.u16_in _ (by omega)
      have s4 : IntKind.u16.wrap ((p4 : Int) + 1) = (p4 : Int) + 1 := IntWalk.u16_in _ (by omega)
      obtain ⟨X1, e1, b1, z1⟩ := digit_at r1
      obtain ⟨X2, e2, b2, z2⟩ := digit_at r2
      obtain ⟨X3, e3, b3, z3⟩ := digit_at r3
      obtain ⟨X4, e4, b4, z4⟩ := digit_at r4
      obtain ⟨Y2, y2⟩ : ∃ Y, X1 ++ X2 = Y := ⟨_, rfl⟩
      obtain ⟨Y3, y3⟩ : ∃ Y, Y2 ++ X3 = Y := ⟨_, rfl⟩
      obtain ⟨Y4, y4⟩ : ∃ Y, Y3 ++ X4 = Y := ⟨_, rfl⟩
      have u2 : Y2.size = X1.size + X2.size := by rw [← y2, ByteArray.size_append]
      have u3 : Y3.size = Y2.size + X3.size := by rw [← y3, ByteArray.size_append]
      have u4 : Y4.size = Y3.size + X4.size := by rw [← y4, ByteArray.size_append]
      have q2 : ¬ 9223372036854775807 < X1.size + X2.size := by omega
      have q3 : ¬ 9223372036854775807 < Y2.size + X3.size := by omega
      have q4 : ¬ 9223372036854775807 < Y3.size + X4.size := by omega
      have HY : Hid (bs Y4 = four v) := Lib.hid (by
        rw [← y4, ← y3, ← y2, bs_append, bs_append, bs_append, b1, b2, b3, b4, hp1, hp2, hp3, hp4]
        rfl)
      have HR0 : Hid (∀ w5, GsRel wide v w5 Y4.size (.string Y4) w5) := Lib.hid fun w5 => ⟨Y4, rfl, by omega, by omega, rfl, by cases wide <;> rw [HY.out] <;> rfl, rfl⟩
      have r1I : (p1 : Int) < 16 := by omega
      have r2I : (p2 : Int) < 16 := by omega
      have r3I : (p3 : Int) < 16 := by omega
      have r4I : (p4 : Int) < 16 := by omega
      clear hp1 hp2 hp3 hp4 b1 b2 b3 b4 z1 z2 z3 z4 u2 u3 u4
      refine wp_region_class f (by kernel_rfl) (lexB_of (by kernel_rfl) (by as_aux_lemma => kernel_rfl)) i0 hf0 ?_
      clear hf0
      repeat (go_big_quiet_step (fail))
      all_goals
        refine wpQuiet_nil ?_
        intro _ hw'
        obtain ⟨nE, hw''⟩ := hw'
        subst hw''
        replace HS := Lib.hid (HS.out.next (HCn.out nE))
      obtain ⟨w5, hw5⟩ : ∃ w5, f nE = w5 := ⟨_, rfl⟩
      rw [hw5] at HS ⊢
      clear hw5 HCn kc n1 n2 n3 n4 s1 s2 s3 s4 e1 e2 e3 e4 y2 y3 y4 q2 q3 q4 r1I r2I r3I r4I HY r1 r2 r3 r4
      go_upto_block 2 with (fail)
      trace_state
      go_cut [9] (fun v9 wc => GsEnd wide v v9 ∧ w5 = wc)
      case first =>
        go_wp2_with fail
        go_loopg [9] Y4.size (fun m v9 wr => GsRel wide v w5 m v9 wr)
        case atStart => exact HR0.out _
        case round =>
          clear HR0
          obtain ⟨r, rfl, hr1, hr4, hrm, hr, rfl⟩ := hrel
          have HRR := Lib.hid hr
          have HRM := Lib.hid hrm
          clear hr hrm
          cases wide
          · by_cases h1 : r.size ≤ 1
            · have g1 : decide ((1 : Int) < (r.size : Int)) = false := by simp; omega
              have g2 : decide (1 < r.size) = false := by simp; omega
              have HE := Lib.hid (show bs r = gT false v by have := HRR.out; rw [← this]; exact (strip_one (by omega)).symm)
              clear h1
              go_wp2
              go_meet
              case rel => exact ⟨⟨r, rfl, hr4, HE.out⟩, rfl⟩
            · have g1 : decide ((1 : Int) < (r.size : Int)) = true := by simp; omega
              have g2 : decide (1 < r.size) = true := by simp; omega
              have h1' : 1 < r.size := by omega
              obtain ⟨d, tl, hdt⟩ := bs_two h1'
              by_cases hc : r[0] = 48
              · have g3 : ((r[0].toNat : Int) == 48) = true := by rw [hc]; rfl
                have g4 : (r[0].toNat == 48) = true := by rw [hc]; rfl
                obtain ⟨r', hr'⟩ : ∃ r', r.extract 1 r.size = r' := ⟨_, rfl⟩
                have hb' : bs r' = d :: tl := by
                  rw [← hr', bs_extract, hdt]
                  show List.take (r.size - 1) (d :: tl) = _
                  exact List.take_of_length_le (by have := congrArg List.length hdt; rw [bs_length] at this; simp only [List.length_cons] at this ⊢; omega)
                have hs' : r'.size = r.size - 1 := by
                  rw [← bs_length, hb']
                  have := congrArg List.length hdt
                  rw [bs_length] at this
                  simp only [List.length_cons] at this ⊢
                  omega
                have HN := Lib.hid (show GsRel false v w5 r'.size (.string r') w5 from ⟨r', rfl, by omega, by omega, rfl, by
                  have := HRR.out
                  rw [hdt] at this
                  rw [hb', ← this]
                  simp [strip, hc], rfl⟩)
                have HMs := Lib.hid (show r'.size < gk by have := HRM.out; omega)
                clear hc hdt hb' hs' h1
                go_wp2
                go_roundg r'.size
                case measure => exact HMs.out
                case rel => exact HN.out
              · have g3 : ((r[0].toNat : Int) == 48) = false := by
                  rw [beq_eq_false_iff_ne]
                  intro e
                  exact hc (UInt8.toNat_inj.1 (by show r[0].toNat = 48; omega))
                have g4 : (r[0].toNat == 48) = false := by
                  rw [beq_eq_false_iff_ne]
                  intro e
                  exact hc (UInt8.toNat_inj.1 e)
                have HE := Lib.hid (show bs r = gT false v by
                  have := HRR.out
                  rw [hdt] at this ⊢
                  rw [← this]
                  simp [strip, hc])
                clear hc hdt h1
                go_wp2
                go_meet
                case rel => exact ⟨⟨r, rfl, hr4, HE.out⟩, rfl⟩
          · have HE := Lib.hid (show bs r = gT true v from HRR.out)
            go_wp2
            go_meet
            case rel => exact ⟨⟨r, rfl, hr4, HE.out⟩, rfl⟩
      case rest =>
        obtain ⟨⟨r, rfl, hr4, hr⟩, rfl⟩ := hcut
        have Hr := Lib.hid hr
        clear hr HR0
        have hs5 : s.size ≤ 40 := by
          have h1 := accT_len wide HT.out k
          rw [← Hs.out, bs_length] at h1
          omega
        have ht5 : t.size ≤ 16 := by
          have h1 := bytesG_len (G.take k)
          rw [← Ht.out, bs_length, List.length_take] at h1
          omega
        go_upto_if 90 with (fail)
        go_cut [6] (fun v6 wc => (∃ s' : ByteArray, v6 = .string s' ∧ s'.size ≤ 41 ∧ bs s' = if 0 < k then accT wide G k ++ [58] else accT wide G k) ∧ w5 = wc)
        case first =>
          by_cases hk0 : 0 < k
          · have g1 : decide (0 < k) = true := by simpa using hk0
            have g2 : decide ((0 : Int) < (k : Int)) = true := by simp; omega
            have q1 : ¬ 9223372036854775807 < s.size + (⟨#[58]⟩ : ByteArray).size := by show ¬ _ < s.size + 1; omega
            have q2 : ¬ 9223372036854775807 < s.size + 1 := by omega
            have HE := Lib.hid (show (s ++ ⟨#[58]⟩ : ByteArray).size ≤ 41 ∧ bs (s ++ ⟨#[58]⟩) = if 0 < k then accT wide G k ++ [58] else accT wide G k from ⟨by rw [ByteArray.size_append]; show s.size + 1 ≤ 41; omega, by rw [if_pos hk0, bs_append, Hs.out]; rfl⟩)
            go_wp2
            go_meet
            case rel => exact ⟨⟨_, rfl, HE.out.1, HE.out.2⟩, rfl⟩
          · have g1 : decide (0 < k) = false := by simpa using hk0
            have g2 : decide ((0 : Int) < (k : Int)) = false := by simp; omega
            have HE := Lib.hid (show s.size ≤ 41 ∧ bs s = if 0 < k then accT wide G k ++ [58] else accT wide G k from ⟨by omega, by rw [if_neg hk0, Hs.out]⟩)
            go_wp2
            go_meet
            case rel => exact ⟨⟨_, rfl, HE.out.1, HE.out.2⟩, rfl⟩
        case rest =>
          obtain ⟨⟨s', rfl, hs1, hs2⟩, rfl⟩ := hcut
          have Hs2 := Lib.hid hs2
          clear hs2
          go_upto_region 13 with (fail)
          obtain ⟨c1, hc1⟩ : ∃ c : Nat, c = v / 256 := ⟨_, rfl⟩
          obtain ⟨c2, hc2⟩ : ∃ c : Nat, c = v % 256 := ⟨_, rfl⟩
          have n1 : IntKind.u8.wrap ((v : Int) / 256) = (c1 : Int) := by rw [IntKind.wrap_u8]; omega
          have n2 : IntKind.u8.wrap (v : Int) = (c2 : Int) := by rw [IntKind.wrap_u8]; omega
          have m1 : ((v : Int) / 256) % 256 = (c1 : Int) := by omega
          have m2 : (v : Int) % 256 = (c2 : Int) := by omega
          obtain ⟨Z, hZ⟩ : ∃ Z : ByteArray, Z = ⟨#[UInt8.ofNat (v / 256), UInt8.ofNat v]⟩ := ⟨_, rfl⟩
          have hZs : Z.size = 2 := by rw [hZ]; rfl
          have t1 : (c1 : Int) = ((UInt8.ofNat (v / 256)).toNat : Int) := by rw [UInt8.toNat_ofNat']; omega
          have t2 : (c2 : Int) = ((UInt8.ofNat v).toNat : Int) := by rw [UInt8.toNat_ofNat']; omega
          have HCV := Lib.hid (fun (wx : World) (g : Nat) (hx : Lies wx g 5 #[.int .u8 (c1 : Int), .int .u8 (c2 : Int)]) => (show (convert 43 9 (.slice (some ⟨g, 0, none⟩) 2 2)).run Tryz.prog wx = .ok (.string Z) wx from by
            have h1 := At.of_lies (enc := B) (L := [UInt8.ofNat (v / 256), UInt8.ofNat v]) hx (by rw [t1, t2]; rfl) (by show 2 ≤ maxLen; unfold maxLen; decide)
            rw [hZ]
            exact conv_at bt h1))
          have q1 : ¬ 9223372036854775807 < s'.size + r.size := by omega
          have q2 : ¬ 9223372036854775807 < t.size + Z.size := by omega
          have HE1 := Lib.hid (show bs (s' ++ r) = accT wide G (k + 1) by
            rw [bs_append, Hs2.out, Hr.out, Hv.out]
            rfl)
          have HE2 := Lib.hid (show bs (t ++ Z) = bytesG (G.take (k + 1)) by
            have hx : G[k]? = some v := Hgk.out
            rw [bs_append, Ht.out, List.take_add_one, hx]
            show _ = bytesG (G.take k ++ [v])
            rw [bytesG_snoc, hZ]
            rfl)
          have hkk := hcs
          have hcv := HCV.out (w5.alloc (.cells #[.int .u8 (c1 : Int), .int .u8 (c2 : Int)] 5)).drew w5.heap.size (Lies.drew (Lies.new _ _ _))
          have hcv2 := HCV.out (w5.alloc (.cells #[.int .u8 (c1 : Int), .int .u8 (c2 : Int)] 5)) w5.heap.size (Lies.new _ _ _)
          have hcv3 := HCV.out (w5.drew.alloc (.cells #[.int .u8 (c1 : Int), .int .u8 (c2 : Int)] 5)) w5.heap.size (Lies.new w5.drew _ _)
          have HK := Lib.hid (show k + 1 ≤ 8 by omega)
          clear hc1 hc2 t1 t2 hZ hZs HCV
          have hq : ∀ wx, Bx w wx [(w.heap.size, 41, (G.map U16).toArray)] → wx.cell? ⟨w.heap.size, k, none⟩ = some (.int .u16 (v : Int)) := fun wx hx => (Lies.cell (hx.at List.mem_cons_self) k).trans hcs
          have HQ := Lib.hid hq
          clear hq hcs hkk
          have kc5 := HQ.out _ HS.out
          have kc6 := HQ.out _ HS.out.drew
          have kc7 := HQ.out _ (HS.out.alloc (.cells #[.int .u8 (c1 : Int), .int .u8 (c2 : Int)] 5))
          go_region
          all_goals
            go_wp2
            go_roundw
            case rel => exact ⟨k + 1, _, _, HK.out, HE1.out, HE2.out, rfl, rfl, by go_num, by first | exact (HS.out.alloc _).drew | exact HS.out.alloc _ | exact HS.out.drew.alloc _⟩
            case measure => simp [intOf]; omega
    · obtain rfl : k = 8 := by omega
      obtain ⟨hi, lo, ha⟩ : ∃ hi lo, newerA 65536 G = (true, hi, lo) := ⟨_, _, rfl⟩
      have hf := grp_fit HL.out HT.out
      have hc : chkA (newerA 65536 G) = 0 := grp_chk
      have ho := grp_ocA HL.out HT.out
      have htx := grp_txA HL.out HT.out
      have hrd := accT_read wide HL.out HT.out
      have hlong := accT_long wide HL.out HT.out
      have hal := accT_len wide HT.out 8
      rw [List.take_of_length_le (by rw [HL.out]; exact Nat.le_refl _)] at ht
      rw [ha] at hf hc ho htx hrd
      rw [← ht] at ho
      rw [← hs] at hrd hlong hal
      obtain ⟨T, hT⟩ : ∃ T : ByteArray, bs T = text6 G := ⟨⟨(text6 G).toArray⟩, bs_mk _⟩
      rw [← hT] at htx hlong
      have hrt := read_text hf hc
      rw [htx] at hrt
      rw [bs_length] at hal
      have hTs : T.size ≤ s.size := by rw [bs_length, bs_length] at hlong; exact hlong
      have GRd := Lib.hid (show GG 13 #[.string s] (.tuple #[.agg #[.bool true, .int .u64 (hi : Int), .int .u64 (lo : Int)], .int .i64 0]) from gRd (a := (true, hi, lo)) (e := 0) (by omega) hrd)
      have GOc := Lib.hid (show GG 17 #[.agg #[.bool true, .int .u64 (hi : Int), .int .u64 (lo : Int)]] (.tuple #[.string t, .int .i64 0]) from gOc (a := (true, hi, lo)) (e := 0) hf ho)
      have GTx := Lib.hid (show GG 15 #[.agg #[.bool true, .int .u64 (hi : Int), .int .u64 (lo : Int)]] (.tuple #[.string T, .int .i64 0]) from gTx (a := (true, hi, lo)) (e := 0) hf htx)
      have GRt := Lib.hid (show GG 13 #[.string T] (.tuple #[.agg #[.bool true, .int .u64 (hi : Int), .int .u64 (lo : Int)], .int .i64 0]) from gRd (a := (true, hi, lo)) (e := 0) (by omega) hrt)
      have EQS : ∀ wx, (Op.equalIn 10000 24 (.agg #[.bool true, .int .u64 (hi : Int), .int .u64 (lo : Int)]) (.agg #[.bool true, .int .u64 (hi : Int), .int .u64 (lo : Int)])).run Tryz.prog wx = .ok true wx := fun wx => (adg_equal true hi lo true hi lo wx).trans (by rw [decide_eq_true rfl])
      have g1 : decide ((T.size : Int) ≤ (s.size : Int)) = true := by simp; omega
      have g2 : decide (T.size ≤ s.size) = true := by simpa using hTs
      clear hs ht ha hf hc ho htx hrd hlong hal hT hrt hge hk
      go_wp2_with fail
      (with_reducible refine (GRd.out.go _ (HG.out _ HS.out.bel)).mono ?_)
      rintro e w2 ⟨rfl, hb⟩
      replace HS := Lib.hid (HS.out.next hb)
      clear hb
      replace HS := Lib.hid (HS.out.more 24 #[.bool true, .int .u64 (hi : Int), .int .u64 (lo : Int)])
      have a0' : (w2.alloc (.cells #[.bool true, .int .u64 (hi : Int), .int .u64 (lo : Int)] 24)).cell? ⟨w2.heap.size, 0, none⟩ = some (.bool true) := Lies.cell (HS.out.at List.mem_cons_self) 0
      have a1' : (w2.alloc (.cells #[.bool true, .int .u64 (hi : Int), .int .u64 (lo : Int)] 24)).cell? ⟨w2.heap.size, 1, none⟩ = some (.int .u64 (hi : Int)) := Lies.cell (HS.out.at List.mem_cons_self) 1
      have a2' : (w2.alloc (.cells #[.bool true, .int .u64 (hi : Int), .int .u64 (lo : Int)] 24)).cell? ⟨w2.heap.size, 2, none⟩ = some (.int .u64 (lo : Int)) := Lies.cell (HS.out.at List.mem_cons_self) 2
      go_wp2_with fail
      (with_reducible refine (GOc.out.go _ (HG.out _ HS.out.bel)).mono ?_)
      rintro e w3 ⟨rfl, hb⟩
      replace HS := Lib.hid (HS.out.next hb)
      clear hb
      clear a0' a1' a2'
      have a0' : w3.cell? ⟨w2.heap.size, 0, none⟩ = some (.bool true) := Lies.cell (HS.out.at List.mem_cons_self) 0
      have a1' : w3.cell? ⟨w2.heap.size, 1, none⟩ = some (.int .u64 (hi : Int)) := Lies.cell (HS.out.at List.mem_cons_self) 1
      have a2' : w3.cell? ⟨w2.heap.size, 2, none⟩ = some (.int .u64 (lo : Int)) := Lies.cell (HS.out.at List.mem_cons_self) 2
      go_wp2_with fail
      (with_reducible refine (GTx.out.go _ (HG.out _ HS.out.bel)).mono ?_)
      rintro e w4 ⟨rfl, hb⟩
      replace HS := Lib.hid (HS.out.next hb)
      clear hb
      clear a0' a1' a2'
      have a0' : w4.cell? ⟨w2.heap.size, 0, none⟩ = some (.bool true) := Lies.cell (HS.out.at List.mem_cons_self) 0
      have a1' : w4.cell? ⟨w2.heap.size, 1, none⟩ = some (.int .u64 (hi : Int)) := Lies.cell (HS.out.at List.mem_cons_self) 1
      have a2' : w4.cell? ⟨w2.heap.size, 2, none⟩ = some (.int .u64 (lo : Int)) := Lies.cell (HS.out.at List.mem_cons_self) 2
      go_wp2_with fail
      (with_reducible refine (GRt.out.go _ (HG.out _ HS.out.bel)).mono ?_)
      rintro e w6 ⟨rfl, hb⟩
      replace HS := Lib.hid (HS.out.next hb)
      clear hb
      clear a0' a1' a2'
      replace HS := Lib.hid (HS.out.more 24 #[.bool true, .int .u64 (hi : Int), .int .u64 (lo : Int)])
      have a0' : (w6.alloc (.cells #[.bool true, .int .u64 (hi : Int), .int .u64 (lo : Int)] 24)).cell? ⟨w2.heap.size, 0, none⟩ = some (.bool true) := Lies.cell (HS.out.at (List.mem_cons_of_mem _ List.mem_cons_self)) 0
      have a1' : (w6.alloc (.cells #[.bool true, .int .u64 (hi : Int), .int .u64 (lo : Int)] 24)).cell? ⟨w2.heap.size, 1, none⟩ = some (.int .u64 (hi : Int)) := Lies.cell (HS.out.at (List.mem_cons_of_mem _ List.mem_cons_self)) 1
      have a2' : (w6.alloc (.cells #[.bool true, .int .u64 (hi : Int), .int .u64 (lo : Int)] 24)).cell? ⟨w2.heap.size, 2, none⟩ = some (.int .u64 (lo : Int)) := Lies.cell (HS.out.at (List.mem_cons_of_mem _ List.mem_cons_self)) 2
      have c0' : (w6.alloc (.cells #[.bool true, .int .u64 (hi : Int), .int .u64 (lo : Int)] 24)).cell? ⟨w6.heap.size, 0, none⟩ = some (.bool true) := Lies.cell (HS.out.at List.mem_cons_self) 0
      have c1' : (w6.alloc (.cells #[.bool true, .int .u64 (hi : Int), .int .u64 (lo : Int)] 24)).cell? ⟨w6.heap.size, 1, none⟩ = some (.int .u64 (hi : Int)) := Lies.cell (HS.out.at List.mem_cons_self) 1
      have c2' : (w6.alloc (.cells #[.bool true, .int .u64 (hi : Int), .int .u64 (lo : Int)] 24)).cell? ⟨w6.heap.size, 2, none⟩ = some (.int .u64 (lo : Int)) := Lies.cell (HS.out.at List.mem_cons_self) 2
      go_wp2
      go_ret
      exact ⟨rfl, HS.out.bel⟩
theorem AddrGroups_walk (G : List Nat) (wide : Bool) (f0 : G.length = 8) (g0 : ∀ c ∈ G, c < 65536) (w : World) (hG : Ground w) :
    Calls Tryz.prog 4 #[gv G, .bool wide] w fun e w' => e = .returned (.bool true) ∧ Below w.heap.size w w' := by
  obtain ⟨a, b, c, d, e, f, g, i, rfl⟩ := eightG f0
  exact AddrGroups_main wide _ a b c d e f g i rfl g0 w hG
end Go.Proofs.YtjadghmanpkgoaaGreatDoor
