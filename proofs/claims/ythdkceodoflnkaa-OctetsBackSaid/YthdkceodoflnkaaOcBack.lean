/-
  The walk of the law OctetsBack. No condition beyond that each argument fits its kind.
-/
import Derived.Test.YthdkceodoflnkaaOcBackM
import Derived.Test.YthdkceodoflnkaaOcPatchesW
import Derived.Test.YthdkceodoflnkaaOcWrite
namespace Go.Proofs.Ythdkceodoflnkaa
open Go.RowKit
set_option linter.unusedVariables false

theorem One.alloc {w0 w : World} {gw M : Nat} {l : List UInt8} {f : Nat} (h : One w0 w gw M l f) (o : Obj) : One w0 (w.alloc o) gw M l f :=
  ⟨h.wr.next ((Below.refl _ _).alloc (Nat.le_refl _) o), h.below.alloc h.below.size o, h.w0⟩
theorem One.acts {w0 w w' : World} {gw M : Nat} {l : List UInt8} {f : Nat} {v : Value} {D : List Ac} (h : One w0 w gw M l f) (ho : OwnA w w0.heap.size v D) (hg : w.grownBy w' v.ownBlock) : One w0 w' gw M l f :=
  ⟨h.wr.acts ho hg, h.below.trans (ho.below hg (Nat.le_refl _) h.below.size), h.w0⟩
theorem OwnA.alloc {w : World} {base : Nat} {v : Value} {D : List Ac} (h : OwnA w base v D) (o : Obj) : OwnA (w.alloc o) base v D := h.next ((Below.refl _ _).alloc (Nat.le_refl _) o)
theorem news4 (w : World) (y : Ac) (t : TypeId) : ∀ j u, (cells4 y)[j]? = some u → (w.alloc (.cells #[.int .i64 y.kind, .int .i64 y.n, .int .u32 y.v, .string y.s] t)).cell? ((⟨w.heap.size, 0, none⟩ : Addr).add j) = some u := by
  intro j u hu
  rw [add_off', Nat.zero_add, (Lies.new w t _).cell j, ← Array.getElem?_toList]
  exact hu
theorem done_snoc {D : List Ac} {y : Ac} (h : ∀ x ∈ D, Done x) (hy : Done y) : ∀ x ∈ D ++ [y], Done x := by
  intro x hx
  rcases List.mem_append.1 hx with h1 | h1
  · exact h x h1
  · rw [List.mem_singleton.1 h1]; exact hy
theorem num_done {D : List Ac} {x : Ac} (hl : (flat D).length ≤ 12000) (hr : room x.v x.n = true) : numW 60000 (flat D) 0 x.v x.n = ⟨0, flat (D ++ [⟨0, x.n, x.v, x.s⟩]), 0⟩ := by
  obtain ⟨h1, h2, _⟩ := room_yes hr
  rw [numW_put hr, putW_ok (by rw [octs_length]; omega), flat_snoc]
  rfl
theorem put_done {D : List Ac} {x : Ac} (hl : (flat D).length ≤ 12000) (hs : x.s.size ≤ 60) : putW 60000 (flat D) 0 (bs x.s) = ⟨0, flat (D ++ [⟨1, x.n, x.v, x.s⟩]), 0⟩ := by
  rw [putW_ok (by rw [bs_length]; omega), flat_snoc]
  rfl

/-- The relation of the law's first loop. -/
def Bk1 (w0 : World) (L : List Ac) (base gw : Nat) (v i : Value) (wr : World) : Prop :=
  ∃ (k : Nat) (D : List Ac), i = .int .i64 k ∧ k ≤ L.length ∧ D.length ≤ k ∧ (flat D).length ≤ 60 * k ∧ (∀ x ∈ D, Done x) ∧ OwnA wr base v D ∧ One w0 wr gw 60000 (flat D) 0

theorem OwnA.read {w w' : World} {base gr k : Nat} {v : Value} {S : ByteArray} {D : List Ac} (h : OwnA w base v D) (hr : RD w gr S k) (hg : w.grownBy w' (some gr)) : OwnA w' base v D :=
  h.grown hg (by
    cases e : v.ownBlock with
    | none => exact .inl rfl
    | some b =>
      refine .inr fun e2 => ?_
      injection e2 with e2
      subst e2
      obtain ⟨_, cur, hL⟩ := h.block e
      exact Lies.ne hL hr (by decide) rfl)
/-- The relation of the law's second loop. -/
def Bk2 (w0 : World) (base gr gw : Nat) (T : ByteArray) (v : Value) (D : List Ac) (i : Value) (wr : World) : Prop :=
  ∃ k : Nat, i = .int .i64 k ∧ k ≤ D.length ∧ OwnA wr base v D ∧ Two w0 wr gr T (flat (D.take k)).length gw 60000 (flat D) 0

section
variable {D : List Ac} {T : ByteArray} {k : Nat} (gr : Nat)
theorem back_number (hT : bs T = flat D) (hTs : T.size ≤ maxLen) (hk : k < D.length) (hd : Done D[k]) (h0 : D[k].kind = 0) (wx : World) (h : RD wx gr T (flat (D.take k)).length) :
    Calls Try.prog 12 #[.pointer (some ⟨gr, 0, none⟩), .int .i64 D[k].n] wx (Rdr wx gr T (flat (D.take (k + 1))).length (.tuple #[.int .u32 D[k].v, .int .i64 0])) := by
  obtain ⟨h1, h2, h3⟩ := room_yes (hd.num h0)
  have hp : piece D[k] = octs D[k].v D[k].n.toNat := if_pos h0
  have hat := flat_at D k hk
  have hnx := flat_next D k hk
  have hle := flat_le D (k + 1)
  have hTl : T.size = (flat D).length := by rw [← bs_length, hT]
  rw [hp] at hat hnx
  rw [octs_length] at hnx
  have := rNumber_any D[k].n h hTs (by rw [hTl]; exact flat_le D k)
  have hn : ((D[k].n.toNat : Nat) : Int) = D[k].n := by omega
  rw [numR_take (by simp [isW]; omega), ← hn, takR_some (by rw [hT]; omega), hT, hat] at this
  rw [hnx, ← hn]
  have e : ((octs D[k].v D[k].n.toNat) ++ flat (D.drop (k + 1))).take D[k].n.toNat = octs D[k].v D[k].n.toNat := List.take_left' (octs_length _ _)
  simp only [e, num_octs _ _ h3] at this
  exact this
theorem back_take (hT : bs T = flat D) (hTs : T.size ≤ maxLen) (hk : k < D.length) (h1 : D[k].kind = 1) (wx : World) (h : RD wx gr T (flat (D.take k)).length) :
    Calls Try.prog 13 #[.pointer (some ⟨gr, 0, none⟩), .int .i64 D[k].s.size] wx (Rdr wx gr T (flat (D.take (k + 1))).length (.tuple #[.string D[k].s, .int .i64 0])) := by
  have hp : piece D[k] = bs D[k].s := if_neg (by rw [h1]; decide)
  have hat := flat_at D k hk
  have hnx := flat_next D k hk
  have hle := flat_le D (k + 1)
  have hTl : T.size = (flat D).length := by rw [← bs_length, hT]
  rw [hp] at hat hnx
  rw [bs_length] at hnx
  have := rTake_any (D[k].s.size : Int) h hTs (by rw [hTl]; exact flat_le D k)
  rw [takR_some (by rw [hT]; omega), hT, hat] at this
  rw [hnx]
  have e : (bs D[k].s ++ flat (D.drop (k + 1))).take D[k].s.size = bs D[k].s := List.take_left' (bs_length _)
  simp only [e, same_str] at this
  exact this
theorem back_left (hT : bs T = flat D) (hTs : T.size ≤ maxLen) (wx : World) (h : RD wx gr T (flat (D.take D.length)).length) :
    Calls Try.prog 19 #[.pointer (some ⟨gr, 0, none⟩)] wx (Quiet wx (.int .i64 0)) := by
  have hTl : T.size = (flat D).length := by rw [← bs_length, hT]
  rw [List.take_length] at h
  have := rLeft_any h hTs (by omega)
  rw [hTl, Int.sub_self] at this
  exact this
end

set_option maxHeartbeats 8000000 in
set_option maxRecDepth 100000 in
theorem OctetsBack_loop (v : Value) (w : World) (L : List Ac) (hrow : ARow w v L) (hL : L.length ≤ 200) :
    Calls Try.prog 7 #[v] w fun e w' => e = .returned (.bool true) ∧ Below w.heap.size w w' := by
  obtain ⟨⟨A, cap, rfl, hcap, hcm, hcells⟩, hfits⟩ := hrow
  have HCE := Lib.hid hcells
  have HFI := Lib.hid hfits
  have HN : Hid (∀ wx, Calls Try.prog 11 #[.int .i64 60000] wx (NewW wx 60000)) := Lib.hid (fun wx => NewWriter_any 60000 wx (by decide))
  have h2 : ¬ 200 < L.length := by omega
  unfold maxLen at hcm
  clear hcells hfits
  go_enter Try.func7, Try.ntmps7
  go_wp2_with (first | (go_at_call 9; refine (lives_any _).mono ?_; rintro e w1 ⟨rfl, hb1⟩; have HB1 := Lib.hid hb1; clear hb1) | (go_at_call 11; refine (HN.out _).mono ?_; rintro e w2 ⟨rfl, hw2, _, hb2⟩; have H2 := Lib.hid (One.start HB1.out hw2 hb2); clear hw2 hb2))
  have HR0 : Hid (Bk1 w L w.heap.size w1.heap.size (.slice none 0 0) (.int .i64 0) w2) := Lib.hid ⟨0, [], rfl, Nat.zero_le _, Nat.le_refl _, Nat.le_refl _, fun x h => (by cases h), OwnA.none_ _ _, H2.out⟩
  obtain ⟨gw, hgw⟩ : ∃ gw, gw = w1.heap.size := ⟨_, rfl⟩
  rw [← hgw] at HR0
  rw [← hgw]
  clear H2 HB1 hgw
  go_loopw [4, 5] (fun v i wr => Bk1 w L w.heap.size gw v i wr) (fun _ i _ => L.length - (intOf i).toNat)
  case atStart => exact HR0.out
  case round =>
    clear HR0
    obtain ⟨k, D, rfl, hk, hDk, hfl, hD, hown, h3⟩ := hrel
    have H3 := Lib.hid h3
    have HO3 := Lib.hid hown
    have HD := Lib.hid hD
    obtain ⟨A', cap', rfl, hc1, hc2⟩ := hown.shape
    unfold maxLen at hc2
    clear h3 hown hD
    rcases Nat.lt_or_ge k L.length with hlt | hge
    · obtain ⟨g, o, rfl, hgl, hat⟩ := HCE.out k hlt
      obtain ⟨x, hx⟩ : ∃ x, x = L[k] := ⟨_, rfl⟩
      have HFX := Lib.hid (HFI.out L[k] (List.getElem_mem hlt))
      rw [← hx] at hat HFX
      have HAT := Lib.hid hat
      have HGL := Lib.hid hgl
      have HC1 := Lib.hid (fun (wx : World) (hb : Below w.heap.size w wx) => HAT.out.below hb HGL.out)
      have hk2 := (HC1.out _ H3.out.below).kind
      have hn2 := (HC1.out _ H3.out.below).n
      have hv2 := (HC1.out _ H3.out.below).v
      have hs2 := (HC1.out _ H3.out.below).s
      have hp : pick x.kind 2 = 0 ∨ pick x.kind 2 = 1 := by
        have := pick_range (i := x.kind) (n := 2) (by decide)
        omega
      have HPK := Lib.hid (fun wx => Pick_any x.kind 2 wx (by decide) (by decide))
      clear hat hx
      rcases Nat.lt_or_ge 60 x.s.size with hlong | hlong
      · go_wp2
        go_ret
        exact ⟨rfl, H3.out.below⟩
      · have hlong' : ¬ 60 < x.s.size := by omega
        rcases hp with hp | hp
        · rw [hp] at HPK
          have hfl2 : (flat D).length ≤ 12000 := by omega
          cases hr : room x.v x.n
          · have HNU : Hid (∀ wx, WR wx gw gw 60000 (flat D) 0 → Calls Try.prog 15 #[.pointer (some ⟨gw, 0, none⟩), .int .u32 x.v, .int .i64 x.n] wx (Wtr wx gw gw 60000 (flat D) 0 (.int .i64 2))) := Lib.hid fun wx h => by
              have := wNumber_any x.v x.n h HFX.out.v (Nat.le_refl _) (by omega) (by decide) (by omega)
              rw [numW_arg hr] at this
              exact this
            clear hp hr
            go_wp2_with (first | (go_at_call 23; refine (HPK.out _).mono ?_; rintro e w' ⟨rfl, rfl⟩) | (go_at_call 15; refine (HNU.out _ (H3.out.alloc _).wr).mono ?_; rintro e w4 ⟨rfl, hw, hk⟩; have H4 := Lib.hid ((H3.out.alloc _).write hw hk); have HO4 := Lib.hid ((HO3.out.alloc _).write hk (H3.out.alloc _).wr); have HL4 := Lib.hid (hk.lies (H3.out.alloc _).wr (Lies.new wr 46 #[.int .i64 0, .int .i64 x.n, .int .u32 x.v, .string x.s]) (Nat.ne_of_gt H3.out.wr.lt) (by decide)); clear hw hk; have c0 := HL4.out.cell 0))
            go_roundw
            case rel => exact ⟨k + 1, D, by go_num, by omega, by omega, by omega, HD.out, HO4.out, H4.out⟩
            case measure => simp [intOf]; omega
          · have HNU : Hid (∀ wx, WR wx gw gw 60000 (flat D) 0 → Calls Try.prog 15 #[.pointer (some ⟨gw, 0, none⟩), .int .u32 x.v, .int .i64 x.n] wx (Wtr wx gw gw 60000 (flat (D ++ [⟨0, x.n, x.v, x.s⟩])) 0 (.int .i64 0))) := Lib.hid fun wx h => by
              have := wNumber_any x.v x.n h HFX.out.v (Nat.le_refl _) (by omega) (by decide) (by omega)
              rw [num_done hfl2 hr] at this
              exact this
            have HDY : Hid (∀ z ∈ D ++ [⟨0, x.n, x.v, x.s⟩], Done z) := Lib.hid (done_snoc HD.out ⟨.inl rfl, fun _ => hr, hlong, HFX.out.v⟩)
            have HLY : Hid ((flat (D ++ [⟨0, x.n, x.v, x.s⟩])).length ≤ 60 * (k + 1) ∧ (D ++ [(⟨0, x.n, x.v, x.s⟩ : Ac)]).length ≤ k + 1) := Lib.hid (by
              obtain ⟨h1, h2, _⟩ := room_yes hr
              rw [flat_snoc, List.length_append, List.length_append]
              have : (piece ⟨0, x.n, x.v, x.s⟩).length = x.n.toNat := octs_length _ _
              simp
              omega)
            have hD1000 : D.length ≤ 1000 := by omega
            clear hp hr
            go_wp2_with (first | (go_at_call 23; refine (HPK.out _).mono ?_; rintro e w' ⟨rfl, rfl⟩) | (go_at_call 15; refine (HNU.out _ (H3.out.alloc _).wr).mono ?_; rintro e w4 ⟨rfl, hw, hk⟩; have H4 := Lib.hid ((H3.out.alloc _).write hw hk); have HO4 := Lib.hid ((HO3.out.alloc _).write hk (H3.out.alloc _).wr); have HL4 := Lib.hid (hk.lies (H3.out.alloc _).wr (Lies.new wr 46 #[.int .i64 0, .int .i64 x.n, .int .u32 x.v, .string x.s]) (Nat.ne_of_gt H3.out.wr.lt) (by decide)); clear hw hk; have c0 := HL4.out.cell 0; have c1 := HL4.out.cell 1; have c2 := HL4.out.cell 2; have c3 := HL4.out.cell 3) | (at_builtin; refine wpList_appendA _ rfl (.tmp 64) (.tmp 66) rfl w.heap.size _ D rfl (HO4.out.alloc _) ⟨0, x.n, x.v, x.s⟩ ⟨w4.heap.size, 0, none⟩ rfl (news4 _ ⟨0, x.n, x.v, x.s⟩ _) hD1000 (le_alloc H4.out.below.size _) ?_; intro v5 w5 ho5 hg5; have HO5 := Lib.hid ho5; have H5 := Lib.hid ((H4.out.alloc _).acts (HO4.out.alloc _) hg5); clear ho5 hg5))
            go_roundw
            case rel => exact ⟨k + 1, _, by go_num, by omega, HLY.out.2, HLY.out.1, HDY.out, HO5.out, H5.out⟩
            case measure => simp [intOf]; omega
        · rw [hp] at HPK
          have hfl2 : (flat D).length ≤ 12000 := by omega
          have HNU : Hid (∀ wx, WR wx gw gw 60000 (flat D) 0 → Calls Try.prog 16 #[.pointer (some ⟨gw, 0, none⟩), .string x.s] wx (Wtr wx gw gw 60000 (flat (D ++ [⟨1, x.n, x.v, x.s⟩])) 0 (.int .i64 0))) := Lib.hid fun wx h => by
            have := wPut_any x.s h (Nat.le_refl _) (by omega) (by decide) (by omega) (by omega)
            rw [put_done hfl2 hlong] at this
            exact this
          have HDY : Hid (∀ z ∈ D ++ [⟨1, x.n, x.v, x.s⟩], Done z) := Lib.hid (done_snoc HD.out ⟨.inr rfl, fun e => (by cases e), hlong, HFX.out.v⟩)
          have HLY : Hid ((flat (D ++ [⟨1, x.n, x.v, x.s⟩])).length ≤ 60 * (k + 1) ∧ (D ++ [(⟨1, x.n, x.v, x.s⟩ : Ac)]).length ≤ k + 1) := Lib.hid (by
            rw [flat_snoc, List.length_append, List.length_append]
            have : (piece ⟨1, x.n, x.v, x.s⟩).length = x.s.size := bs_length _
            simp
            omega)
          have hD1000 : D.length ≤ 1000 := by omega
          clear hp
          go_wp2_with (first | (go_at_call 23; refine (HPK.out _).mono ?_; rintro e w' ⟨rfl, rfl⟩) | (go_at_call 16; refine (HNU.out _ (H3.out.alloc _).wr).mono ?_; rintro e w4 ⟨rfl, hw, hk⟩; have H4 := Lib.hid ((H3.out.alloc _).write hw hk); have HO4 := Lib.hid ((HO3.out.alloc _).write hk (H3.out.alloc _).wr); have HL4 := Lib.hid (hk.lies (H3.out.alloc _).wr (Lies.new wr 46 #[.int .i64 1, .int .i64 x.n, .int .u32 x.v, .string x.s]) (Nat.ne_of_gt H3.out.wr.lt) (by decide)); clear hw hk; have c0 := HL4.out.cell 0; have c1 := HL4.out.cell 1; have c2 := HL4.out.cell 2; have c3 := HL4.out.cell 3) | (at_builtin; refine wpList_appendA _ rfl (.tmp 64) (.tmp 66) rfl w.heap.size _ D rfl (HO4.out.alloc _) ⟨1, x.n, x.v, x.s⟩ ⟨w4.heap.size, 0, none⟩ rfl (news4 _ ⟨1, x.n, x.v, x.s⟩ _) hD1000 (le_alloc H4.out.below.size _) ?_; intro v5 w5 ho5 hg5; have HO5 := Lib.hid ho5; have H5 := Lib.hid ((H4.out.alloc _).acts (HO4.out.alloc _) hg5); clear ho5 hg5))
          go_roundw
          case rel => exact ⟨k + 1, _, by go_num, by omega, HLY.out.2, HLY.out.1, HDY.out, HO5.out, H5.out⟩
          case measure => simp [intOf]; omega
    · obtain ⟨T, hT⟩ : ∃ T : ByteArray, T = ⟨(flat D).toArray⟩ := ⟨_, rfl⟩
      have hbT : bs T = flat D := by rw [hT, bs_mk]
      have HBT := Lib.hid hbT
      have HTX : Hid (∀ wx, WR wx gw gw 60000 (flat D) 0 → Calls Try.prog 21 #[.pointer (some ⟨gw, 0, none⟩)] wx fun e w' => e = .returned (.string T) ∧ wx = w') := Lib.hid fun wx h => by
        rw [hT]
        exact wText_any h
      have HTS : Hid (T.size ≤ maxLen) := Lib.hid (by rw [hT, tosize]; unfold maxLen; omega)
      clear hT hbT
      go_wp2_with (first | (go_at_call 21; refine (HTX.out _ H3.out.wr).mono ?_; rintro e w' ⟨rfl, rfl⟩) | (go_at_call 10; refine (NewReader_any T _).mono ?_; rintro e w5 ⟨rfl, hr5, hb5⟩; have H5 := Lib.hid (Two.start H3.out.wr H3.out.below H3.out.w0 hr5 hb5); have HO5 := Lib.hid (HO3.out.next hb5); clear hr5 hb5))
      obtain ⟨gr, hgr⟩ : ∃ gr, gr = wr.heap.size := ⟨_, rfl⟩
      rw [← hgr] at H5
      rw [← hgr]
      have HR1 : Hid (Bk2 w w.heap.size gr gw T (.slice A' D.length cap') D (.int .i64 0) w5) := Lib.hid ⟨0, rfl, Nat.zero_le _, HO5.out, H5.out⟩
      clear H5 HO5 hgr
      go_loopw [8] (fun i wr => Bk2 w w.heap.size gr gw T (.slice A' D.length cap') D i wr) (fun i _ => D.length - (intOf i).toNat)
      case atStart => exact HR1.out
      case round =>
        clear HR1
        obtain ⟨m, rfl, hm, hown, h6⟩ := hrel
        have H6 := Lib.hid h6
        have HO6 := Lib.hid hown
        clear h6 hown
        rcases Nat.lt_or_ge m D.length with hlt | hge2
        · obtain ⟨g2, cp2, hv2, hat⟩ := HO6.out.at m hlt
          injection hv2 with hA' _ hcap'
          subst hA'
          rw [Nat.zero_add] at hat
          have hdone := HD.out D[m] (List.getElem_mem hlt)
          have HAT : Hid (∀ wx, OwnA wx w.heap.size (.slice (some ⟨g2, 0, none⟩) D.length cap') D → AcAt wx g2 (m * 4) D[m]) := Lib.hid (fun wx ho => ho.at' m hlt)
          rcases hdone.kind with h0 | h1
          · have HNU := Lib.hid (back_number gr HBT.out HTS.out hlt hdone h0)
            obtain ⟨y, hy⟩ : ∃ y, y = D[m] := ⟨_, rfl⟩
            rw [← hy] at hat HNU HAT h0
            have c0 := hat.kind
            have c1 := hat.n
            rw [h0] at c0
            clear hat h0 hdone hy hcap'
            go_wp2_with (go_at_call 12; refine (HNU.out _ H6.out.rd).mono ?_; rintro e w7 ⟨rfl, hr, hg⟩; have H7 := Lib.hid (H6.out.read hr hg); have HO7 := Lib.hid (HO6.out.read H6.out.rd hg); clear hr hg; have c2 := (HAT.out _ HO7.out).v)
            go_roundw
            case rel => exact ⟨m + 1, by go_num, by omega, HO7.out, H7.out⟩
            case measure => simp [intOf]; omega
          · have HNU := Lib.hid (back_take gr HBT.out HTS.out hlt h1)
            obtain ⟨y, hy⟩ : ∃ y, y = D[m] := ⟨_, rfl⟩
            rw [← hy] at hat HNU HAT h1
            have c0 := hat.kind
            have c3 := hat.s
            rw [h1] at c0
            clear hat h1 hdone hy hcap'
            go_wp2_with (go_at_call 13; refine (HNU.out _ H6.out.rd).mono ?_; rintro e w7 ⟨rfl, hr, hg⟩; have H7 := Lib.hid (H6.out.read hr hg); have HO7 := Lib.hid (HO6.out.read H6.out.rd hg); clear hr hg; have c4 := (HAT.out _ HO7.out).s)
            go_roundw
            case rel => exact ⟨m + 1, by go_num, by omega, HO7.out, H7.out⟩
            case measure => simp [intOf]; omega
        · obtain rfl : m = D.length := by omega
          have HLE := Lib.hid (back_left gr HBT.out HTS.out)
          have HAT := Lib.hid (fun wx (h : RD wx gr T (flat (D.take D.length)).length) => rAt_any h)
          rw [List.take_length] at HAT
          clear hge2 hm
          go_wp2_with (first | (go_at_call 19; refine (HLE.out _ H6.out.rd).mono ?_; rintro e w7 ⟨rfl, nd, rfl⟩; have H7 := Lib.hid (H6.out.drewN nd)) | (go_at_call 18; refine (HAT.out _ (by have := H7.out.rd; rw [List.take_length] at this; exact this)).mono ?_; rintro e w' ⟨rfl, rfl⟩) | (go_at_call 22; refine (wLen_any H7.out.wr).mono ?_; rintro e w' ⟨rfl, rfl⟩) | (go_at_call 20; refine (wErr_any H7.out.wr).mono ?_; rintro e w' ⟨rfl, rfl⟩))
          go_ret
          exact ⟨rfl, H7.out.below⟩

set_option maxHeartbeats 1000000 in
set_option maxRecDepth 100000 in
theorem OctetsBack_walk (v : Value) (w : World) (L : List Ac) (hrow : ARow w v L) :
    Calls Try.prog 7 #[v] w fun e w' => e = .returned (.bool true) ∧ Below w.heap.size w w' := by
  rcases Nat.lt_or_ge 200 L.length with h | h
  · obtain ⟨⟨A, cap, rfl, hcap, hcm, _⟩, _⟩ := hrow
    unfold maxLen at hcm
    go_enter Try.func7, Try.ntmps7
    go_wp2_with (go_at_call 9; refine (lives_any _).mono ?_; rintro e w1 ⟨rfl, hb1⟩; have HB1 := Lib.hid hb1; clear hb1)
    go_ret
    exact ⟨rfl, HB1.out⟩
  · exact OctetsBack_loop v w L hrow h
end Go.Proofs.Ythdkceodoflnkaa
