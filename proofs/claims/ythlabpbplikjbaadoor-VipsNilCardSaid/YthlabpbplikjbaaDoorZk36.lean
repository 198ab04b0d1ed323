/-
  A host is given its address: the walk of give. Conditions: the laid tables' cells (Ground), the two maps are two, the host is no longer than 2^40. Give: the walk. Conditions: the laid tables' cells (Ground), the two maps are two, the host is no longer than 2^48.
-/
import Derived.Test.YthlabpbplikjbaaDoorZk31
import Derived.Test.YthlabpbplikjbaaDoorZk33
import Derived.Test.YthlabpbplikjbaaDoorPh
import Derived.Test.YthlabpbplikjbaaDoorZk35
namespace Go.Proofs.YthlabpbplikjbaaDoor
open Go.RowKit Go.Maps Go.Shelf
set_option linter.unusedVariables false

/-- What give hands back, and what has become of the pool. -/
def GiveOut (B : PB) (p : PoolD) (w : World) (R : List Hd × Ad × Nat) (e : Ending) (w' : World) : Prop := e = .returned (.tuple #[av R.2.1, .int .i64 (R.2.2 : Int)]) ∧ PoolAt w' B p R.1 ∧ Kq B w w'
theorem Kq.of_b2 {B : PB} {w w' : World} (hb : Below w.heap.size w w') : Kq B w w' := Kq.of_below hb
theorem Kq.setNew {B : PB} {w w' : World} (h : Kq B w w') {g : Nat} (hg : w.heap.size ≤ g) (j : Nat) (v : Value) : Kq B w (w'.setCell ⟨g, j, none⟩ v) :=
  ⟨h.os, h.tape, h.output, by simpa [World.setCell] using h.size, fun k hk h1 h2 => by rw [heap_setCell_other _ _ _ _ (show k ≠ g by omega)]; exact h.block k hk h1 h2⟩
theorem Kq.from_drew {B : PB} {w w' : World} (h : Kq B w.drew w') : Kq B w w' := ⟨h.os, h.tape, h.output, h.size, h.block⟩
theorem PoolAt.put {w w' : World} {B : PB} {p : PoolD} {H : List Hd} {n : ByteArray} {k : List UInt8} {j : Nat} (h : PoolAt w B p H) (hah : B.a ≠ B.h) (hk : keyH n = k) (hk0 : k ≠ []) (hn : findH H k = none) (hj : j < p.sz) (hf : p.freeJ H j = true)
    (hA : MapE Tryd.prog 39 w' B.a (entA H ++ [(stv k, av (plR p.r j))])) (hH : MapE Tryd.prog 29 w' B.h (entH H ++ [(av (plR p.r j), hdv (n, plR p.r j))])) (hq : Kq B w w') : PoolAt w' B p (H ++ [(n, plR p.r j)]) := by
  subst hk
  refine ⟨hq.lies h.obj h.ga h.gh, hq.lies h.row h.sa h.sh, ?_, ?_, h.ok, h.wf.add hk0 hn hj hf⟩
  · unfold entA at *; rw [List.map_append]; exact hA
  · unfold entH at *; rw [List.map_append]; exact hH
theorem put_some {p : PoolD} {H : List Hd} {n : ByteArray} {k : List UInt8} {x : Hd} (h : findH H k = some x) : p.put H n k = (H, x.2, 0) := by unfold PoolD.put; rw [h]
theorem put_no {p : PoolD} {H : List Hd} {n : ByteArray} {k : List UInt8} (h : findH H k = none) (hf : p.first H k = none) : p.put H n k = (H, noA, 10) := by unfold PoolD.put; rw [h, hf]
theorem put_yes {p : PoolD} {H : List Hd} {n : ByteArray} {k : List UInt8} {j : Int} (h : findH H k = none) (hf : p.first H k = some j) : p.put H n k = (H ++ [(n, plR p.r j.toNat)], plR p.r j.toNat, 0) := by unfold PoolD.put; rw [h, hf]
set_option maxRecDepth 100000 in
set_option maxHeartbeats 8000000 in
theorem pgive_any {w : World} {B : PB} {p : PoolD} {H : List Hd} (hG : Ground w) (h : PoolAt w B p H) (hah : B.a ≠ B.h) {n : ByteArray} {k : List UInt8} (hk : keyH n = k) (hk0 : k ≠ []) (hn : n.size ≤ 281474976710656) :
    Calls Tryd.prog 29 #[.pointer (some ⟨B.g, 0, none⟩), stv k, .string n] w (GiveOut B p w (p.put H n k)) := by
  have hkm : k.length ≤ maxLen := by rw [← hk]; exact key_max n
  have hkk : foldN k = k := by rw [← hk]; exact key_key n
  obtain ⟨F, hF⟩ : ∃ F : ByteArray, F = ⟨k.toArray⟩ := ⟨_, rfl⟩
  have e1 : stv k = .string F := by rw [hF]; rfl
  have hFb : bs F = k := by rw [hF, bs_mk]
  have hFs : F.size ≤ maxLen := by rw [← bs_length, hFb]; exact hkm
  obtain ⟨W, hW⟩ : ∃ W, w.alloc (.cells #[.bool false, .int .u64 0, .int .u64 0] 29) = W := ⟨_, rfl⟩
  have hbW : Below w.heap.size w W := by rw [← hW]; exact (Below.refl _ _).alloc (Nat.le_refl _) _
  have hzW : W.heap.size = w.heap.size + 1 := by rw [← hW]; simp
  have hr0 : Lies W w.heap.size 29 #[.bool false, .int .u64 0, .int .u64 0] := by rw [← hW]; exact Lies.new _ _ _
  have hpW := h.next hbW
  have HW := Lib.hid hW
  have HBW := Lib.hid hbW
  have HZW := Lib.hid hzW
  have HR0 := Lib.hid hr0
  have HPW := Lib.hid hpW
  have hltW : w.heap.size < W.heap.size := by omega
  have c6 : W.cell? ⟨B.g, 6, none⟩ = some (.map (some B.a)) := hpW.obj.cell 6
  cases hfk : findH H k with
  | some x =>
    rw [put_some hfk]
    obtain ⟨x1, ⟨s, ah, al⟩⟩ := x
    have HP := Lib.hid h
    have hlk := hpW.name_yes true hfk
    rw [e1] at hlk ⊢
    have hav : av (s, ah, al) = .agg #[.bool s, .int .u64 (ah : Int), .int .u64 (al : Int)] := rfl
    rw [hav] at hlk
    simp only [if_true] at hlk
    obtain ⟨⟨a0, a1, a2⟩, b0, b1, b2⟩ := ad_cells hr0
    clear h hah hk hk0 hn hkm hkk hF e1 hFb hFs hW hbW hzW hr0 hpW hfk hG
    go_enter Tryd.func29, Tryd.ntmps29
    go_upto_region 1 with (fail)
    rw [HW.out]
    go_wp2
    have hb := of_ba (g := w.heap.size) (o := .cells #[.bool s, .int .u64 (ah : Int), .int .u64 (al : Int)] 29) (y0 := .bool s) (y1 := .int .u64 (ah : Int)) (y2 := .int .u64 (al : Int)) (Below.refl W.heap.size W) HBW.out (Nat.le_refl _)
    refine bodyPost_ret (ret_ad2 rfl _ _ w.heap.size (s, ah, al) rfl ?_) rfl ⟨rfl, ?_, Kq.of_below hb⟩
    · exact of_a HR0.out
    · exact HP.out.next hb
  | none =>
    cases hfi : p.first H k with
    | none =>
      rw [put_no hfk hfi]
      obtain ⟨eA, eB⟩ := first_non hfi
      have HNx := Lib.hid (fun wx (hG : Ground wx) (h : PoolAt wx B p H) => pnext_any (w := wx) (F := F) hG h hFb hkk hFs)
      rw [eA, eB] at HNx
      have hlk := hpW.name_no hkm hfk
      rw [e1] at hlk ⊢
      have HP := Lib.hid h
      have HGw := Lib.hid hG
      have hav : av noA = .agg #[.bool false, .int .u64 0, .int .u64 0] := rfl
      rw [hav] at hlk HNx
      clear h hah hk hk0 hn hkm hkk hF e1 hFb hFs hW hbW hzW hr0 hpW hfk hG hfi eA eB hav
      go_enter Tryd.func29, Tryd.ntmps29
      go_upto_region 1 with (fail)
      rw [HW.out]
      have hb5 : Below W.heap.size W (W.alloc (.cells #[.bool false, .int .u64 0, .int .u64 0] 29)) := (Below.refl _ _).alloc (Nat.le_refl _) _
      have HB5 := Lib.hid hb5
      clear hb5
      go_wp2_with (go_at_call 45; refine (HNx.out _ (HGw.out.next (HBW.out.trans (HB5.out.mono HBW.out.size))) (HPW.out.next HB5.out)).mono ?_; rintro e w2 ⟨rfl, hb⟩; have hb6 := HB5.out.trans (hb.mono HB5.out.size); have hr2 := HR0.out.next hb6; obtain ⟨⟨a0, a1, a2⟩, b0, b1, b2⟩ := ad_cells hr2; have hlt2 : w.heap.size < w2.heap.size := hr2.lt; have HR2 := Lib.hid hr2; have HB6 := Lib.hid hb6; clear hb hb6 hr2)
      have hb := of_ba (g := w.heap.size) (o := .cells #[.bool false, .int .u64 0, .int .u64 0] 29) (y0 := .bool false) (y1 := .int .u64 0) (y2 := .int .u64 0) HB6.out HBW.out (Nat.le_refl _)
      refine bodyPost_ret (ret_ad2 rfl _ _ w.heap.size noA rfl ?_) rfl ⟨rfl, ?_, Kq.of_below hb⟩
      · exact of_a HR2.out
      · exact HP.out.next hb
    | some j =>
      rw [put_yes hfk hfi]
      obtain ⟨j0, j1, j2⟩ := PoolD.first_some h.ok hfi
      obtain ⟨jn, rfl⟩ : ∃ jn : Nat, j = jn := ⟨j.toNat, by omega⟩
      rw [Int.toNat_natCast] at j2 ⊢
      have hjn : jn < p.sz := by omega
      have eA : p.nextA H k = plR p.r jn := by unfold PoolD.nextA; rw [hfi]; simp
      have eB : p.nextB H k = true := by unfold PoolD.nextB; rw [hfi]; rfl
      have HNx := Lib.hid (fun wx (hG : Ground wx) (h : PoolAt wx B p H) => pnext_any (w := wx) (F := F) hG h hFb hkk hFs)
      rw [eA, eB] at HNx
      have hlk := hpW.name_no hkm hfk
      have hfa : fitA (plR p.r jn) := pl_fit h.ok.fit hjn
      have hPut : Hid (∀ w', MapE Tryd.prog 39 w' B.a (entA H ++ [(stv k, av (plR p.r jn))]) → MapE Tryd.prog 29 w' B.h (entH H ++ [(av (plR p.r jn), hdv (n, plR p.r jn))]) → Kq B w w' → PoolAt w' B p (H ++ [(n, plR p.r jn)])) := Lib.hid fun w' h1 h2 h3 => h.put hah hk hk0 hfk hjn j2 h1 h2 h3
      have hnA : Hid (∀ q ∈ entA H, q.1 ≠ .string F) := Lib.hid (fun q hq => by
        obtain ⟨x, hx, rfl⟩ := List.mem_map.1 hq
        rw [← e1]
        exact fun e => findH_none.1 hfk x hx (stv_inj e))
      have hnH : Hid (∀ q ∈ entH H, q.1 ≠ av (plR p.r jn)) := Lib.hid (fun q hq => by
        obtain ⟨x, hx, rfl⟩ := List.mem_map.1 hq
        unfold PoolD.freeJ at j2
        rw [Bool.and_eq_true, Option.isNone_iff_eq_none, findA_none] at j2
        exact fun e => j2.2 x hx (av_inj e))
      have hlen : Hid ((entA H).length < maxLen ∧ (entH H).length < maxLen) := Lib.hid (by
        have h1 := h.wf.le
        have h2 : p.room ≤ p.sz := by unfold PoolD.room; rw [free_cnP]; exact cnP_le _ _ _
        have h3 := h.ok.pos.2
        unfold entA entH maxLen
        rw [List.length_map, List.length_map]
        omega)
      have hkS : Hid (keyOf Tryd.prog 39 (.string F) = some (.string k)) := Lib.hid (by rw [← e1]; exact keyS hkm)
      have hkA : Hid (keyOf Tryd.prog 29 (av (plR p.r jn)) = some (kA (plR p.r jn))) := Lib.hid (keyAv hfa)
      have gC := Lib.hid (gClone hn)
      have hne : Hid (B.g ≠ B.a ∧ B.g ≠ B.h ∧ B.a ≠ B.h) := Lib.hid ⟨h.ga, h.gh, hah⟩
      rw [e1] at hlk hPut ⊢
      have HP := Lib.hid h
      have HGw := Lib.hid hG
      have hv0 : av noA = .agg #[.bool false, .int .u64 0, .int .u64 0] := rfl
      rw [hv0] at hlk
      have hhv : ∀ a : Ad, hdv (n, a) = .agg #[.string n, .bool a.1, .int .u64 (a.2.1 : Int), .int .u64 (a.2.2 : Int)] := fun _ => rfl
      rw [hhv] at hPut
      obtain ⟨⟨s, ah, al⟩, ha⟩ : ∃ a, plR p.r jn = a := ⟨_, rfl⟩
      rw [ha] at HNx hPut hnH hkA ⊢
      have hav : av (s, ah, al) = .agg #[.bool s, .int .u64 (ah : Int), .int .u64 (al : Int)] := rfl
      have hav2 : Hid (av (s, ah, al) = .agg #[.bool s, .int .u64 (ah : Int), .int .u64 (al : Int)]) := Lib.hid rfl
      rw [hav] at HNx hPut hnH hkA
      simp only at hPut
      clear h hah hk hk0 hn hkm hkk hF e1 hFb hFs hW hbW hzW hr0 hpW hfk hG hfi eA eB hv0 hhv hav ha hfa hjn j0 j1 j2
      go_enter Tryd.func29, Tryd.ntmps29
      go_upto_region 1 with (fail)
      rw [HW.out]
      have hb5 : Below W.heap.size W (W.alloc (.cells #[.bool false, .int .u64 0, .int .u64 0] 29)) := (Below.refl _ _).alloc (Nat.le_refl _) _
      have HB5 := Lib.hid hb5
      clear hb5
      go_upto_region 7 with (go_at_call 45; refine (HNx.out _ (HGw.out.next (HBW.out.trans (HB5.out.mono HBW.out.size))) (HPW.out.next HB5.out)).mono ?_; rintro e w2 ⟨rfl, hb⟩; have hb6 := HB5.out.trans (hb.mono HB5.out.size); have hr2 := HR0.out.next hb6; have HR2 := Lib.hid hr2; have HB6 := Lib.hid hb6; clear hb hb6 hr2)
      obtain ⟨W5, hW5⟩ : ∃ W5, w2.alloc (.cells #[.bool s, .int .u64 (ah : Int), .int .u64 (al : Int)] 29) = W5 := ⟨_, rfl⟩
      have hb25 : Below w2.heap.size w2 W5 := by rw [← hW5]; exact (Below.refl _ _).alloc (Nat.le_refl _) _
      have hl5 : Lies W5 w2.heap.size 29 #[.bool s, .int .u64 (ah : Int), .int .u64 (al : Int)] := by rw [← hW5]; exact Lies.new _ _ _
      obtain ⟨g5, hg5⟩ : ∃ g5, w2.heap.size = g5 := ⟨_, rfl⟩
      rw [hW5]
      have HB65 := Lib.hid (HB6.out.trans (hb25.mono HB6.out.size))
      have HP5 := Lib.hid (HPW.out.next HB65.out)
      have HR5 := Lib.hid (HR2.out.next hb25)
      have hge5 : W.heap.size ≤ g5 := by rw [← hg5]; exact HB6.out.size
      rw [hg5] at hl5 ⊢
      have HL5 := Lib.hid hl5
      have HGE := Lib.hid hge5
      clear hb25 hl5 hg5 hW5 hge5 hltW c6 hlk
      obtain ⟨w6, hr6, hM6, hg6, hs6⟩ := (HP5.out.drew.adr).put skey Tryd.underlying70 (val := .agg #[.bool s, .int .u64 (ah : Int), .int .u64 (al : Int)]) hlen.out.1 hkS.out hnA.out
      have HM6 := Lib.hid hM6
      have HG6 := Lib.hid hg6
      have c6 : W5.cell? ⟨B.g, 6, none⟩ = some (.map (some B.a)) := HP5.out.obj.cell 6
      obtain ⟨⟨f0, f1, f2⟩, _⟩ := ad_cells HL5.out
      clear hM6 hg6 hs6
      go_region
      all_goals
        clear hr6 c6 f0 f1 f2
        have hlt := HPW.out.lt
        have hge5 := HGE.out
        have hwl := HR0.out.lt
        have hne0 := hne.out
        have hob : Lies w6 B.g 73 (poolC p B) := HP5.out.obj.drew.grown HG6.out (fun e => hne0.1 (by injection e))
        have hl6 : Lies w6 g5 29 #[.bool s, .int .u64 (ah : Int), .int .u64 (al : Int)] := HL5.out.drew.grown HG6.out (fun e => by injection e with e; omega)
        have hr6 : Lies w6 w.heap.size 29 #[.bool false, .int .u64 0, .int .u64 0] := HR5.out.drew.grown HG6.out (fun e => by
          injection e with e
          have := HP.out.lt
          omega)
        have hh6 : MapE Tryd.prog 29 w6 B.h (entH H) := HP5.out.drew.hld.grown HG6.out (fun e => hne0.2.2 (by injection e with e; exact e.symm))
        have HOB := Lib.hid hob
        have HL6 := Lib.hid hl6
        have HR6 := Lib.hid hr6
        have HH6 := Lib.hid hh6
        have c7 : w6.cell? ⟨B.g, 7, none⟩ = some (.map (some B.h)) := hob.cell 7
        obtain ⟨⟨f0, f1, f2⟩, _⟩ := ad_cells hl6
        clear hob hl6 hr6 hh6 hlt hge5 hwl hne0
        clear c7 f0 f1 f2
        go_wp2_with fail
        obtain ⟨Ix, f, i0, hf0, hC, hS⟩ := cls_of w6
        haveI : Nonempty Ix := ⟨i0⟩
        have HC := Lib.hid hC
        have c7 : ∀ i, (f i).cell? ⟨B.g, 7, none⟩ = some (.map (some B.h)) := fun i => (HOB.out.next (HC.out i)).cell 7
        have f0 : ∀ i, (f i).cell? ⟨g5, 0, none⟩ = some (.bool s) := fun i => (HL6.out.next (HC.out i)).cell 0
        have f1 : ∀ i, (f i).cell? ⟨g5, 1, none⟩ = some (.int .u64 (ah : Int)) := fun i => (HL6.out.next (HC.out i)).cell 1
        have f2 : ∀ i, (f i).cell? ⟨g5, 2, none⟩ = some (.int .u64 (al : Int)) := fun i => (HL6.out.next (HC.out i)).cell 2
        have VC := Lib.hid (cls_go gC.out hS)
        clear hC hS
        refine region_at (by kernel_rfl) ?_
        refine at_seg (fun w' => ∃ i, w' = f i) 0 9 _ rfl (by decide) (by decide) (by as_aux_lemma => kernel_rfl) (by as_aux_lemma => kernel_rfl) (fun _ => by as_aux_lemma => kernel_rfl) (by as_aux_lemma => kernel_rfl) ⟨i0, hf0⟩ ?_
        clear hf0
        change wpQuiet _ _ _ _ (_ :: _ :: _ :: _ :: _ :: _ :: _ :: _ :: _ :: []) _
        repeat (go_big_quiet_step (with_reducible exact VC.out _))
        all_goals
          refine wpQuiet_nil ?_
          intro _ hw'
          obtain ⟨nE, hw''⟩ := hw'
          subst hw''
          have hb7 := HC.out nE
          obtain ⟨w7, hw7⟩ : ∃ w7, f nE = w7 := ⟨_, rfl⟩
          rw [hw7] at hb7 ⊢
          clear hw7 c7 f0 f1 f2 VC
          have hl7 := HL6.out.next hb7
          have hr7 := HR6.out.next hb7
          have hm7 := HM6.out.next hb7
          have hk7 := Kq.of_below (B := B) hb7
          have hh7 := HH6.out.next hb7
          obtain ⟨w8, hr8, hM8, hg8, hs8⟩ := hh7.put akey Tryd.underlying71 (val := .agg #[.string n, .bool s, .int .u64 (ah : Int), .int .u64 (al : Int)]) hlen.out.2 hkA.out hnH.out
          have HL7 := Lib.hid hl7
          have HR7 := Lib.hid hr7
          have HM7 := Lib.hid hm7
          have HK7 := Lib.hid hk7
          have HM8 := Lib.hid hM8
          have HG8 := Lib.hid hg8
          clear hb7 hl7 hr7 hm7 hk7 hh7 hM8 hg8 hs8
          refine at_one 9 _ rfl (by as_aux_lemma => kernel_rfl) (by as_aux_lemma => kernel_rfl) ?_
          intro K hK'
          go_wp2_with fail
          refine at_end ?_
          clear hr8
          have hlt := HPW.out.lt
          have hlt0 := HP.out.lt
          have hge5 := HGE.out
          have hl8 : Lies w8 g5 29 #[.bool s, .int .u64 (ah : Int), .int .u64 (al : Int)] := HL7.out.grown HG8.out (fun e => by injection e with e; omega)
          have hr8 : Lies w8 w.heap.size 29 #[.bool false, .int .u64 0, .int .u64 0] := HR7.out.grown HG8.out (fun e => by injection e with e; omega)
          have HX : Hid (PoolAt (((w8.setCell ⟨w.heap.size, 0, none⟩ (.bool s)).setCell ⟨w.heap.size, 1, none⟩ (.int .u64 (ah : Int))).setCell ⟨w.heap.size, 2, none⟩ (.int .u64 (al : Int))) B p (H ++ [(n, (s, ah, al))]) ∧ Kq B w (((w8.setCell ⟨w.heap.size, 0, none⟩ (.bool s)).setCell ⟨w.heap.size, 1, none⟩ (.int .u64 (ah : Int))).setCell ⟨w.heap.size, 2, none⟩ (.int .u64 (al : Int))) ∧ Lies (((w8.setCell ⟨w.heap.size, 0, none⟩ (.bool s)).setCell ⟨w.heap.size, 1, none⟩ (.int .u64 (ah : Int))).setCell ⟨w.heap.size, 2, none⟩ (.int .u64 (al : Int))) w.heap.size 29 #[.bool s, .int .u64 (ah : Int), .int .u64 (al : Int)]) := Lib.hid (by
            have hq : Kq B w (((w8.setCell ⟨w.heap.size, 0, none⟩ (.bool s)).setCell ⟨w.heap.size, 1, none⟩ (.int .u64 (ah : Int))).setCell ⟨w.heap.size, 2, none⟩ (.int .u64 (al : Int))) :=
              (((((Kq.of_b2 (HBW.out.trans (HB65.out.mono HBW.out.size)).drew).trans (Kq.of_a HG6.out)).trans (HK7.out)).trans (Kq.of_h HG8.out)).setNew (Nat.le_refl _) 0 _ |>.setNew (Nat.le_refl _) 1 _).setNew (Nat.le_refl _) 2 _
            refine ⟨hPut.out _ ?_ ?_ hq, hq, ((hr8.set 0 _).set 1 _).set 2 _⟩
            · exact (((HM7.out.grown HG8.out (fun e => hne.out.2.2 (by injection e))).setOther (by omega) _).setOther (by omega) _).setOther (by omega) _
            · exact ((HM8.out.setOther (by omega) _).setOther (by omega) _).setOther (by omega) _)
          obtain ⟨⟨f0, f1, f2⟩, _⟩ := ad_cells hl8
          obtain ⟨⟨a0, a1, a2⟩, b0, b1, b2⟩ := ad_cells hr8
          clear hl8 hr8 hlt hlt0 hge5
          go_wp2
          refine bodyPost_ret (ret_ad2 rfl _ _ w.heap.size (s, ah, al) rfl HX.out.2.2) rfl ⟨rfl, HX.out.1, HX.out.2.1⟩
end Go.Proofs.YthlabpbplikjbaaDoor
namespace Go.Proofs.YthlabpbplikjbaaDoor
open Go.RowKit Go.Maps Go.Shelf
set_option linter.unusedVariables false

section
variable {w w2 : World} {y0 y1 y2 : Value} {B : PB} {p : PoolD} {H : List Hd} {g : Nat}
theorem gv_b (h : Below w.heap.size w w2) : Below w.heap.size w (((w2.setCell ⟨w.heap.size, 0, none⟩ y0).setCell ⟨w.heap.size, 1, none⟩ y1).setCell ⟨w.heap.size, 2, none⟩ y2) :=
  ((h.setCell (p := ⟨w.heap.size, 0, none⟩) (Nat.le_refl _) _).setCell (p := ⟨w.heap.size, 1, none⟩) (Nat.le_refl _) _).setCell (p := ⟨w.heap.size, 2, none⟩) (Nat.le_refl _) _
theorem PoolAt.setOther (h : PoolAt w2 B p H) (h1 : B.g ≠ g) (h2 : B.s ≠ g) (h3 : B.a ≠ g) (h4 : B.h ≠ g) (j : Nat) (v : Value) : PoolAt (w2.setCell ⟨g, j, none⟩ v) B p H := ⟨h.obj.setOther h1 v, h.row.setOther h2 v, h.adr.setOther h3 v, h.hld.setOther h4 v, h.ok, h.wf⟩
theorem gv_p (h : PoolAt w2 B p H) (h1 : B.g ≠ g) (h2 : B.s ≠ g) (h3 : B.a ≠ g) (h4 : B.h ≠ g) : PoolAt (((w2.setCell ⟨g, 0, none⟩ y0).setCell ⟨g, 1, none⟩ y1).setCell ⟨g, 2, none⟩ y2) B p H :=
  ((h.setOther h1 h2 h3 h4 0 y0).setOther h1 h2 h3 h4 1 y1).setOther h1 h2 h3 h4 2 y2
end
set_option maxRecDepth 100000 in
set_option maxHeartbeats 4000000 in
theorem pGive_any {w : World} {B : PB} {p : PoolD} {H : List Hd} (hG : Ground w) (h : PoolAt w B p H) (hah : B.a ≠ B.h) {n : ByteArray} (hn : n.size ≤ 281474976710656) :
    Calls Tryd.prog 12 #[.pointer (some ⟨B.g, 0, none⟩), .string n] w (GiveOut B p w (p.give H n)) := by
  have hnm : n.size ≤ maxLen := by unfold maxLen; omega
  obtain ⟨k, hk⟩ : ∃ k, keyH n = k := ⟨_, rfl⟩
  have gf := Lib.hid (gVf hnm hk)
  obtain ⟨W, hW⟩ : ∃ W, w.alloc (.cells #[.bool false, .int .u64 0, .int .u64 0] 29) = W := ⟨_, rfl⟩
  have hbW : Below w.heap.size w W := by rw [← hW]; exact (Below.refl _ _).alloc (Nat.le_refl _) _
  have hr0 : Lies W w.heap.size 29 #[.bool false, .int .u64 0, .int .u64 0] := by rw [← hW]; exact Lies.new _ _ _
  have hpW := h.next hbW
  have HW := Lib.hid hW
  have HBW := Lib.hid hbW
  have HR0 := Lib.hid hr0
  have HPW := Lib.hid hpW
  have HM := Lib.hid (pmade_yes hpW)
  have HP := Lib.hid h
  have HGw := Lib.hid hG
  by_cases h0 : k = []
  · have e0 : eK k = 2 := if_pos h0
    rw [e0] at gf
    have eR : p.give H n = (H, noA, 2) := if_pos (hk.trans h0)
    rw [eR]
    obtain ⟨F, hF⟩ : ∃ F : ByteArray, stv k = .string F := ⟨_, rfl⟩
    rw [hF] at gf
    clear hnm hk hW hbW hr0 hpW h hG h0 e0 eR hF
    go_enter Tryd.func12, Tryd.ntmps12
    go_upto_region 1 with (fail)
    rw [HW.out]
    go_wp2_with (first | (go_at_call 25; refine HM.out.mono ?_; rintro e w1 ⟨rfl, rfl⟩) | (go_at_call 31; refine (gf.out.go _).mono ?_; rintro e w2 ⟨rfl, hb⟩; have hr2 := HR0.out.next hb; obtain ⟨⟨a0, a1, a2⟩, b0, b1, b2⟩ := ad_cells hr2; have HR2 := Lib.hid hr2; have HB2 := Lib.hid (HBW.out.trans (hb.mono HBW.out.size)); clear hb hr2))
    have hb := gv_b (y0 := .bool false) (y1 := .int .u64 0) (y2 := .int .u64 0) HB2.out
    refine bodyPost_ret (ret_ad2 rfl _ _ w.heap.size noA rfl ?_) rfl ⟨rfl, HP.out.next hb, Kq.of_below hb⟩
    exact ((HR2.out.set 0 _).set 1 _).set 2 _
  · have e0 : eK k = 0 := if_neg h0
    rw [e0] at gf
    have eR : p.give H n = p.put H n k := by unfold PoolD.give; rw [hk, if_neg h0]
    rw [eR]
    have HG5 : Hid (∀ wx, Below w.heap.size w wx → Calls Tryd.prog 29 #[.pointer (some ⟨B.g, 0, none⟩), stv k, .string n] wx (GiveOut B p wx (p.put H n k))) := Lib.hid fun wx hb => pgive_any (hG.next hb) (h.next hb) hah hk h0 hn
    obtain ⟨F, hF⟩ : ∃ F : ByteArray, stv k = .string F := ⟨_, rfl⟩
    rw [hF] at gf HG5
    obtain ⟨⟨H', ⟨s, ah, al⟩, er⟩, hR⟩ : ∃ R, p.put H n k = R := ⟨_, rfl⟩
    rw [hR] at HG5 ⊢
    have hav : av (s, ah, al) = .agg #[.bool s, .int .u64 (ah : Int), .int .u64 (al : Int)] := rfl
    unfold GiveOut at HG5
    simp only [hav] at HG5
    clear hnm hk hW hbW hr0 hpW h hG h0 e0 eR hF hav hR
    go_enter Tryd.func12, Tryd.ntmps12
    go_upto_region 1 with (fail)
    rw [HW.out]
    go_wp2_with (first | (go_at_call 25; refine HM.out.mono ?_; rintro e w1 ⟨rfl, rfl⟩) | (go_at_call 31; refine (gf.out.go _).mono ?_; rintro e w2 ⟨rfl, hb⟩; have HR2 := Lib.hid (HR0.out.next hb); have HB2 := Lib.hid (HBW.out.trans (hb.mono HBW.out.size)); clear hb) | (go_at_call 29; refine (HG5.out _ HB2.out).mono ?_; rintro e w3 ⟨rfl, hp3, hk3⟩; have hr3 := hk3.lies HR2.out (by have := HP.out.lt; omega) (by have := HP.out.lt; omega); obtain ⟨⟨a0, a1, a2⟩, b0, b1, b2⟩ := ad_cells hr3; have HR3 := Lib.hid hr3; have HP3 := Lib.hid hp3; have HK3 := Lib.hid hk3; clear hp3 hk3 hr3))
    refine bodyPost_ret (ret_ad2 rfl _ _ w.heap.size (s, ah, al) rfl (((HR3.out.set 0 _).set 1 _).set 2 _)) rfl ⟨rfl, ?_, ?_⟩
    · exact gv_p HP3.out (by have := HP.out.lt; omega) (by have := HP.out.lt; omega) (by have := HP.out.lt; omega) (by have := HP.out.lt; omega)
    · exact ((((Kq.of_below HB2.out).trans HK3.out).setNew (Nat.le_refl _) 0 _).setNew (Nat.le_refl _) 1 _).setNew (Nat.le_refl _) 2 _
end Go.Proofs.YthlabpbplikjbaaDoor
