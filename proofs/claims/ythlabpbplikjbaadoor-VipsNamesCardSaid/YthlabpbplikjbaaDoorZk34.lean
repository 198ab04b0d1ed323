/-
  A host is given its address: the walk of give. Conditions: the laid tables' cells (Ground), the two maps are two, the host is no longer than 2^40. Give: the walk. Conditions: the laid tables' cells (Ground), the two maps are two, the host is no longer than 2^48. A host is dropped: the walks of drop, Drop. Conditions: the two maps are two, the host is no longer than Go's own limit. Hosts folded; where each came first: the walks of foldAll, firsts. Conditions: at most 100,000 hosts, each no longer than 2^48. Where each of a row of hosts came first: the walk of firsts. Conditions: at most 100,000 hosts, each no longer than Go's own limit. A pool's copy: the walk of Clone. No condition. The layer's own examples ('lives') come out true; what a law holds beside a pool. Conditions: the laid tables' cells (Ground).
-/
import Derived.Test.YthlabpbplikjbaaDoorZk29
import Derived.Test.YthlabpbplikjbaaDoorZk31
import Derived.Test.YthlabpbplikjbaaDoorPh
import Derived.Test.YthlabpbplikjbaaDoorZk33
import Derived.Test.YthlabpbplikjbaaDoorZk12
import Derived.Shelf.SlMaps.Clone
namespace Go.Proofs.YthlabpbplikjbaaDoor
open Go.RowKit Go.Maps Go.Shelf
set_option linter.unusedVariables false

/-- What give hands back, and what has become of the pool. -/
def GiveOut (B : PB) (p : PoolD) (w : World) (R : List Hd × Ad × Nat) (e : Ending) (w' : World) : Prop := e = .returned (.tuple #[av R.2.1, .int .i64 (R.2.2 : Int)]) ∧ PoolAt w' B p R.1 ∧ Kq B w w'
theorem Kq.of_b2 {B : PB} {w w' : World} (hb : Below w.heap.size w w') : Kq B w w' := Kq.of_below hb
theorem Kq.setNew {B : PB} {w w' : World} (h : Kq B w w') {g : Nat} (hg : w.heap.size ≤ g) (j : Nat) (v : Value) : Kq B w (w'.setCell ⟨g, j, none⟩ v) :=
  ⟨h.os, h.tape, h.output, by simpa [World.setCell] using h.size, fun k hk h1 h2 => by rw [heap_setCell_other _ _ _ _ (show k ≠ g by omega)]; exact h.block k hk h1 h2⟩
theorem Kq.from_drew {B : PB} {w w' : World} (h : Kq B w.drew w') : Kq B w w' := ⟨h.os, h.tape, h.output, h.size, h.block⟩
theorem PoolAt.put {w w' : World} {B : PB} {p : PoolD} {H : List Hd} {n : ByteArray} {k : List UInt8} {j : Nat} (h : PoolAt w B p H) (hah : B.a ≠ B.h) (hk : keyH n = k) (hk0 : k ≠ []) (hn : findH H k = none) (hj : j < p.sz) (hf : p.freeJ H j = true)
    (hA : MapE Tryd.prog 39 w' B.a (entA H ++ [(stv k, av (plR p.r j))])) (hH : MapE Tryd.prog 29 w' B.h (entH H ++ [(av (plR p.r j), hdv (n, plR p.r j))])) (hq : Kq B w w') : PoolAt w' B p (H ++ [(n, plR p.r j)]) := by
  subst hk
  refine ⟨hq.lies h.obj h.ga h.gh, hq.lies h.row h.sa h.sh, ?_, ?_, h.ok, h.wf.add hk0 hn hj hf⟩
  · unfold entA at *; rw [List.map_append]; exact hA
  · unfold entH at *; rw [List.map_append]; exact hH
theorem put_some {p : PoolD} {H : List Hd} {n : ByteArray} {k : List UInt8} {x : Hd} (h : findH H k = some x) : p.put H n k = (H, x.2, 0) := by unfold PoolD.put; rw [h]
theorem put_no {p : PoolD} {H : List Hd} {n : ByteArray} {k : List UInt8} (h : findH H k = none) (hf : p.first H k = none) : p.put H n k = (H, noA, 10) := by unfold PoolD.put; rw [h, hf]
theorem put_yes {p : PoolD} {H : List Hd} {n : ByteArray} {k : List UInt8} {j : Int} (h : findH H k = none) (hf : p.first H k = some j) : p.put H n k = (H ++ [(n, plR p.r j.toNat)], plR p.r j.toNat, 0) := by unfold PoolD.put; rw [h, hf]
set_option maxRecDepth 100000 in
set_option maxHeartbeats 8000000 in
theorem pgive_any {w : World} {B : PB} {p : PoolD} {H : List Hd} (hG : Ground w) (h : PoolAt w B p H) (hah : B.a ≠ B.h) {n : ByteArray} {k : List UInt8} (hk : keyH n = k) (hk0 : k ≠ []) (hn : n.size ≤ 281474976710656) :
    Calls Tryd.prog 29 #[.pointer (some ⟨B.g, 0, none⟩), stv k, .string n] w (GiveOut B p w (p.put H n k)) := by
  have hkm : k.length ≤ maxLen := by rw [← hk]; exact key_max n
  have hkk : foldN k = k := by rw [← hk]; exact key_key n
  obtain ⟨F, hF⟩ : ∃ F : ByteArray, F = ⟨k.toArray⟩ := ⟨_, rfl⟩
  have e1 : stv k = .string F := by rw [hF]; rfl
  have hFb : bs F = k := by rw [hF, bs_mk]
  have hFs : F.size ≤ maxLen := by rw [← bs_length, hFb]; exact hkm
  obtain ⟨W, hW⟩ : ∃ W, w.alloc (.cells #[.bool false, .int .u64 0, .int .u64 0] 29) = W := ⟨_, rfl⟩
  have hbW : Below w.heap.size w W := by rw [← hW]; exact (Below.refl _ _).alloc (Nat.le_refl _) _
  have hzW : W.heap.size = w.heap.size + 1 := by rw [← hW]; simp
  have hr0 : Lies W w.heap.size 29 #[.bool false, .int .u64 0, .int .u64 0] := by rw [← hW]; exact Lies.new _ _ _
  have hpW := h.next hbW
  have HW := Lib.hid hW
  have HBW := Lib.hid hbW
  have HZW := Lib.hid hzW
  have HR0 := Lib.hid hr0
  have HPW := Lib.hid hpW
  have hltW : w.heap.size < W.heap.size := by omega
  have c6 : W.cell? ⟨B.g, 6, none⟩ = some (.map (some B.a)) := hpW.obj.cell 6
  cases hfk : findH H k with
  | some x =>
    rw [put_some hfk]
    obtain ⟨x1, ⟨s, ah, al⟩⟩ := x
    have HP := Lib.hid h
    have hlk := hpW.name_yes true hfk
    rw [e1] at hlk ⊢
    have hav : av (s, ah, al) = .agg #[.bool s, .int .u64 (ah : Int), .int .u64 (al : Int)] := rfl
    rw [hav] at hlk
    simp only [if_true] at hlk
    obtain ⟨⟨a0, a1, a2⟩, b0, b1, b2⟩ := ad_cells hr0
    clear h hah hk hk0 hn hkm hkk hF e1 hFb hFs hW hbW hzW hr0 hpW hfk hG
    go_enter Tryd.func29, Tryd.ntmps29
    go_upto_region 1 with (fail)
    rw [HW.out]
    go_wp2
    have hb := of_ba (g := w.heap.size) (o := .cells #[.bool s, .int .u64 (ah : Int), .int .u64 (al : Int)] 29) (y0 := .bool s) (y1 := .int .u64 (ah : Int)) (y2 := .int .u64 (al : Int)) (Below.refl W.heap.size W) HBW.out (Nat.le_refl _)
    refine bodyPost_ret (ret_ad2 rfl _ _ w.heap.size (s, ah, al) rfl ?_) rfl ⟨rfl, ?_, Kq.of_below hb⟩
    · exact of_a HR0.out
    · exact HP.out.next hb
  | none =>
    cases hfi : p.first H k with
    | none =>
      rw [put_no hfk hfi]
      obtain ⟨eA, eB⟩ := first_non hfi
      have HNx := Lib.hid (fun wx (hG : Ground wx) (h : PoolAt wx B p H) => pnext_any (w := wx) (F := F) hG h hFb hkk hFs)
      rw [eA, eB] at HNx
      have hlk := hpW.name_no hkm hfk
      rw [e1] at hlk ⊢
      have HP := Lib.hid h
      have HGw := Lib.hid hG
      have hav : av noA = .agg #[.bool false, .int .u64 0, .int .u64 0] := rfl
      rw [hav] at hlk HNx
      clear h hah hk hk0 hn hkm hkk hF e1 hFb hFs hW hbW hzW hr0 hpW hfk hG hfi eA eB hav
      go_enter Tryd.func29, Tryd.ntmps29
      go_upto_region 1 with (fail)
      rw [HW.out]
      have hb5 : Below W.heap.size W (W.alloc (.cells #[.bool false, .int .u64 0, .int .u64 0] 29)) := (Below.refl _ _).alloc (Nat.le_refl _) _
      have HB5 := Lib.hid hb5
      clear hb5
      go_wp2_with (go_at_call 45; refine (HNx.out _ (HGw.out.next (HBW.out.trans (HB5.out.mono HBW.out.size))) (HPW.out.next HB5.out)).mono ?_; rintro e w2 ⟨rfl, hb⟩; have hb6 := HB5.out.trans (hb.mono HB5.out.size); have hr2 := HR0.out.next hb6; obtain ⟨⟨a0, a1, a2⟩, b0, b1, b2⟩ := ad_cells hr2; have hlt2 : w.heap.size < w2.heap.size := hr2.lt; have HR2 := Lib.hid hr2; have HB6 := Lib.hid hb6; clear hb hb6 hr2)
      have hb := of_ba (g := w.heap.size) (o := .cells #[.bool false, .int .u64 0, .int .u64 0] 29) (y0 := .bool false) (y1 := .int .u64 0) (y2 := .int .u64 0) HB6.out HBW.out (Nat.le_refl _)
      refine bodyPost_ret (ret_ad2 rfl _ _ w.heap.size noA rfl ?_) rfl ⟨rfl, ?_, Kq.of_below hb⟩
      · exact of_a HR2.out
      · exact HP.out.next hb
    | some j =>
      rw [put_yes hfk hfi]
      obtain ⟨j0, j1, j2⟩ := PoolD.first_some h.ok hfi
      obtain ⟨jn, rfl⟩ : ∃ jn : Nat, j = jn := ⟨j.toNat, by omega⟩
      rw [Int.toNat_natCast] at j2 ⊢
      have hjn : jn < p.sz := by omega
      have eA : p.nextA H k = plR p.r jn := by unfold PoolD.nextA; rw [hfi]; simp
      have eB : p.nextB H k = true := by unfold PoolD.nextB; rw [hfi]; rfl
      have HNx := Lib.hid (fun wx (hG : Ground wx) (h : PoolAt wx B p H) => pnext_any (w := wx) (F := F) hG h hFb hkk hFs)
      rw [eA, eB] at HNx
      have hlk := hpW.name_no hkm hfk
      have hfa : fitA (plR p.r jn) := pl_fit h.ok.fit hjn
      have hPut : Hid (∀ w', MapE Tryd.prog 39 w' B.a (entA H ++ [(stv k, av (plR p.r jn))]) → MapE Tryd.prog 29 w' B.h (entH H ++ [(av (plR p.r jn), hdv (n, plR p.r jn))]) → Kq B w w' → PoolAt w' B p (H ++ [(n, plR p.r jn)])) := Lib.hid fun w' h1 h2 h3 => h.put hah hk hk0 hfk hjn j2 h1 h2 h3
      have hnA : Hid (∀ q ∈ entA H, q.1 ≠ .string F) := Lib.hid (fun q hq => by
        obtain ⟨x, hx, rfl⟩ := List.mem_map.1 hq
        rw [← e1]
        exact fun e => findH_none.1 hfk x hx (stv_inj e))
      have hnH : Hid (∀ q ∈ entH H, q.1 ≠ av (plR p.r jn)) := Lib.hid (fun q hq => by
        obtain ⟨x, hx, rfl⟩ := List.mem_map.1 hq
        unfold PoolD.freeJ at j2
        rw [Bool.and_eq_true, Option.isNone_iff_eq_none, findA_none] at j2
        exact fun e => j2.2 x hx (av_inj e))
      have hlen : Hid ((entA H).length < maxLen ∧ (entH H).length < maxLen) := Lib.hid (by
        have h1 := h.wf.le
        have h2 : p.room ≤ p.sz := by unfold PoolD.room; rw [free_cnP]; exact cnP_le _ _ _
        have h3 := h.ok.pos.2
        unfold entA entH maxLen
        rw [List.length_map, List.length_map]
        omega)
      have hkS : Hid (keyOf Tryd.prog 39 (.string F) = some (.string k)) := Lib.hid (by rw [← e1]; exact keyS hkm)
      have hkA : Hid (keyOf Tryd.prog 29 (av (plR p.r jn)) = some (kA (plR p.r jn))) := Lib.hid (keyAv hfa)
      have gC := Lib.hid (gClone hn)
      have hne : Hid (B.g ≠ B.a ∧ B.g ≠ B.h ∧ B.a ≠ B.h) := Lib.hid ⟨h.ga, h.gh, hah⟩
      rw [e1] at hlk hPut ⊢
      have HP := Lib.hid h
      have HGw := Lib.hid hG
      have hv0 : av noA = .agg #[.bool false, .int .u64 0, .int .u64 0] := rfl
      rw [hv0] at hlk
      have hhv : ∀ a : Ad, hdv (n, a) = .agg #[.string n, .bool a.1, .int .u64 (a.2.1 : Int), .int .u64 (a.2.2 : Int)] := fun _ => rfl
      rw [hhv] at hPut
      obtain ⟨⟨s, ah, al⟩, ha⟩ : ∃ a, plR p.r jn = a := ⟨_, rfl⟩
      rw [ha] at HNx hPut hnH hkA ⊢
      have hav : av (s, ah, al) = .agg #[.bool s, .int .u64 (ah : Int), .int .u64 (al : Int)] := rfl
      have hav2 : Hid (av (s, ah, al) = .agg #[.bool s, .int .u64 (ah : Int), .int .u64 (al : Int)]) := Lib.hid rfl
      rw [hav] at HNx hPut hnH hkA
      simp only at hPut
      clear h hah hk hk0 hn hkm hkk hF e1 hFb hFs hW hbW hzW hr0 hpW hfk hG hfi eA eB hv0 hhv hav ha hfa hjn j0 j1 j2
      go_enter Tryd.func29, Tryd.ntmps29
      go_upto_region 1 with (fail)
      rw [HW.out]
      have hb5 : Below W.heap.size W (W.alloc (.cells #[.bool false, .int .u64 0, .int .u64 0] 29)) := (Below.refl _ _).alloc (Nat.le_refl _) _
      have HB5 := Lib.hid hb5
      clear hb5
      go_upto_region 7 with (go_at_call 45; refine (HNx.out _ (HGw.out.next (HBW.out.trans (HB5.out.mono HBW.out.size))) (HPW.out.next HB5.out)).mono ?_; rintro e w2 ⟨rfl, hb⟩; have hb6 := HB5.out.trans (hb.mono HB5.out.size); have hr2 := HR0.out.next hb6; have HR2 := Lib.hid hr2; have HB6 := Lib.hid hb6; clear hb hb6 hr2)
      obtain ⟨W5, hW5⟩ : ∃ W5, w2.alloc (.cells #[.bool s, .int .u64 (ah : Int), .int .u64 (al : Int)] 29) = W5 := ⟨_, rfl⟩
      have hb25 : Below w2.heap.size w2 W5 := by rw [← hW5]; exact (Below.refl _ _).alloc (Nat.le_refl _) _
      have hl5 : Lies W5 w2.heap.size 29 #[.bool s, .int .u64 (ah : Int), .int .u64 (al : Int)] := by rw [← hW5]; exact Lies.new _ _ _
      obtain ⟨g5, hg5⟩ : ∃ g5, w2.heap.size = g5 := ⟨_, rfl⟩
      rw [hW5]
      have HB65 := Lib.hid (HB6.out.trans (hb25.mono HB6.out.size))
      have HP5 := Lib.hid (HPW.out.next HB65.out)
      have HR5 := Lib.hid (HR2.out.next hb25)
      have hge5 : W.heap.size ≤ g5 := by rw [← hg5]; exact HB6.out.size
      rw [hg5] at hl5 ⊢
      have HL5 := Lib.hid hl5
      have HGE := Lib.hid hge5
      clear hb25 hl5 hg5 hW5 hge5 hltW c6 hlk
      obtain ⟨w6, hr6, hM6, hg6, hs6⟩ := (HP5.out.drew.adr).put skey Tryd.underlying70 (val := .agg #[.bool s, .int .u64 (ah : Int), .int .u64 (al : Int)]) hlen.out.1 hkS.out hnA.out
      have HM6 := Lib.hid hM6
      have HG6 := Lib.hid hg6
      have c6 : W5.cell? ⟨B.g, 6, none⟩ = some (.map (some B.a)) := HP5.out.obj.cell 6
      obtain ⟨⟨f0, f1, f2⟩, _⟩ := ad_cells HL5.out
      clear hM6 hg6 hs6
      go_region
      all_goals
        clear hr6 c6 f0 f1 f2
        have hlt := HPW.out.lt
        have hge5 := HGE.out
        have hwl := HR0.out.lt
        have hne0 := hne.out
        have hob : Lies w6 B.g 73 (poolC p B) := HP5.out.obj.drew.grown HG6.out (fun e => hne0.1 (by injection e))
        have hl6 : Lies w6 g5 29 #[.bool s, .int .u64 (ah : Int), .int .u64 (al : Int)] := HL5.out.drew.grown HG6.out (fun e => by injection e with e; omega)
        have hr6 : Lies w6 w.heap.size 29 #[.bool false, .int .u64 0, .int .u64 0] := HR5.out.drew.grown HG6.out (fun e => by
          injection e with e
          have := HP.out.lt
          omega)
        have hh6 : MapE Tryd.prog 29 w6 B.h (entH H) := HP5.out.drew.hld.grown HG6.out (fun e => hne0.2.2 (by injection e with e; exact e.symm))
        have HOB := Lib.hid hob
        have HL6 := Lib.hid hl6
        have HR6 := Lib.hid hr6
        have HH6 := Lib.hid hh6
        have c7 : w6.cell? ⟨B.g, 7, none⟩ = some (.map (some B.h)) := hob.cell 7
        obtain ⟨⟨f0, f1, f2⟩, _⟩ := ad_cells hl6
        clear hob hl6 hr6 hh6 hlt hge5 hwl hne0
        clear c7 f0 f1 f2
        go_wp2_with fail
        obtain ⟨Ix, f, i0, hf0, hC, hS⟩ := cls_of w6
        haveI : Nonempty Ix := ⟨i0⟩
        have HC := Lib.hid hC
        have c7 : ∀ i, (f i).cell? ⟨B.g, 7, none⟩ = some (.map (some B.h)) := fun i => (HOB.out.next (HC.out i)).cell 7
        have f0 : ∀ i, (f i).cell? ⟨g5, 0, none⟩ = some (.bool s) := fun i => (HL6.out.next (HC.out i)).cell 0
        have f1 : ∀ i, (f i).cell? ⟨g5, 1, none⟩ = some (.int .u64 (ah : Int)) := fun i => (HL6.out.next (HC.out i)).cell 1
        have f2 : ∀ i, (f i).cell? ⟨g5, 2, none⟩ = some (.int .u64 (al : Int)) := fun i => (HL6.out.next (HC.out i)).cell 2
        have VC := Lib.hid (cls_go gC.out hS)
        clear hC hS
        refine region_at (by kernel_rfl) ?_
        refine at_seg (fun w' => ∃ i, w' = f i) 0 9 _ rfl (by decide) (by decide) (by as_aux_lemma => kernel_rfl) (by as_aux_lemma => kernel_rfl) (fun _ => by as_aux_lemma => kernel_rfl) (by as_aux_lemma => kernel_rfl) ⟨i0, hf0⟩ ?_
        clear hf0
        change wpQuiet _ _ _ _ (_ :: _ :: _ :: _ :: _ :: _ :: _ :: _ :: _ :: []) _
        repeat (go_big_quiet_step (with_reducible exact VC.out _))
        all_goals
          refine wpQuiet_nil ?_
          intro _ hw'
          obtain ⟨nE, hw''⟩ := hw'
          subst hw''
          have hb7 := HC.out nE
          obtain ⟨w7, hw7⟩ : ∃ w7, f nE = w7 := ⟨_, rfl⟩
          rw [hw7] at hb7 ⊢
          clear hw7 c7 f0 f1 f2 VC
          have hl7 := HL6.out.next hb7
          have hr7 := HR6.out.next hb7
          have hm7 := HM6.out.next hb7
          have hk7 := Kq.of_below (B := B) hb7
          have hh7 := HH6.out.next hb7
          obtain ⟨w8, hr8, hM8, hg8, hs8⟩ := hh7.put akey Tryd.underlying71 (val := .agg #[.string n, .bool s, .int .u64 (ah : Int), .int .u64 (al : Int)]) hlen.out.2 hkA.out hnH.out
          have HL7 := Lib.hid hl7
          have HR7 := Lib.hid hr7
          have HM7 := Lib.hid hm7
          have HK7 := Lib.hid hk7
          have HM8 := Lib.hid hM8
          have HG8 := Lib.hid hg8
          clear hb7 hl7 hr7 hm7 hk7 hh7 hM8 hg8 hs8
          refine at_one 9 _ rfl (by as_aux_lemma => kernel_rfl) (by as_aux_lemma => kernel_rfl) ?_
          intro K hK'
          go_wp2_with fail
          refine at_end ?_
          clear hr8
          have hlt := HPW.out.lt
          have hlt0 := HP.out.lt
          have hge5 := HGE.out
          have hl8 : Lies w8 g5 29 #[.bool s, .int .u64 (ah : Int), .int .u64 (al : Int)] := HL7.out.grown HG8.out (fun e => by injection e with e; omega)
          have hr8 : Lies w8 w.heap.size 29 #[.bool false, .int .u64 0, .int .u64 0] := HR7.out.grown HG8.out (fun e => by injection e with e; omega)
          have HX : Hid (PoolAt (((w8.setCell ⟨w.heap.size, 0, none⟩ (.bool s)).setCell ⟨w.heap.size, 1, none⟩ (.int .u64 (ah : Int))).setCell ⟨w.heap.size, 2, none⟩ (.int .u64 (al : Int))) B p (H ++ [(n, (s, ah, al))]) ∧ Kq B w (((w8.setCell ⟨w.heap.size, 0, none⟩ (.bool s)).setCell ⟨w.heap.size, 1, none⟩ (.int .u64 (ah : Int))).setCell ⟨w.heap.size, 2, none⟩ (.int .u64 (al : Int))) ∧ Lies (((w8.setCell ⟨w.heap.size, 0, none⟩ (.bool s)).setCell ⟨w.heap.size, 1, none⟩ (.int .u64 (ah : Int))).setCell ⟨w.heap.size, 2, none⟩ (.int .u64 (al : Int))) w.heap.size 29 #[.bool s, .int .u64 (ah : Int), .int .u64 (al : Int)]) := Lib.hid (by
            have hq : Kq B w (((w8.setCell ⟨w.heap.size, 0, none⟩ (.bool s)).setCell ⟨w.heap.size, 1, none⟩ (.int .u64 (ah : Int))).setCell ⟨w.heap.size, 2, none⟩ (.int .u64 (al : Int))) :=
              (((((Kq.of_b2 (HBW.out.trans (HB65.out.mono HBW.out.size)).drew).trans (Kq.of_a HG6.out)).trans (HK7.out)).trans (Kq.of_h HG8.out)).setNew (Nat.le_refl _) 0 _ |>.setNew (Nat.le_refl _) 1 _).setNew (Nat.le_refl _) 2 _
            refine ⟨hPut.out _ ?_ ?_ hq, hq, ((hr8.set 0 _).set 1 _).set 2 _⟩
            · exact (((HM7.out.grown HG8.out (fun e => hne.out.2.2 (by injection e))).setOther (by omega) _).setOther (by omega) _).setOther (by omega) _
            · exact ((HM8.out.setOther (by omega) _).setOther (by omega) _).setOther (by omega) _)
          obtain ⟨⟨f0, f1, f2⟩, _⟩ := ad_cells hl8
          obtain ⟨⟨a0, a1, a2⟩, b0, b1, b2⟩ := ad_cells hr8
          clear hl8 hr8 hlt hlt0 hge5
          go_wp2
          refine bodyPost_ret (ret_ad2 rfl _ _ w.heap.size (s, ah, al) rfl HX.out.2.2) rfl ⟨rfl, HX.out.1, HX.out.2.1⟩
end Go.Proofs.YthlabpbplikjbaaDoor
namespace Go.Proofs.YthlabpbplikjbaaDoor
open Go.RowKit Go.Maps Go.Shelf
set_option linter.unusedVariables false

section
variable {w w2 : World} {y0 y1 y2 : Value} {B : PB} {p : PoolD} {H : List Hd} {g : Nat}
theorem gv_b (h : Below w.heap.size w w2) : Below w.heap.size w (((w2.setCell ⟨w.heap.size, 0, none⟩ y0).setCell ⟨w.heap.size, 1, none⟩ y1).setCell ⟨w.heap.size, 2, none⟩ y2) :=
  ((h.setCell (p := ⟨w.heap.size, 0, none⟩) (Nat.le_refl _) _).setCell (p := ⟨w.heap.size, 1, none⟩) (Nat.le_refl _) _).setCell (p := ⟨w.heap.size, 2, none⟩) (Nat.le_refl _) _
theorem PoolAt.setOther (h : PoolAt w2 B p H) (h1 : B.g ≠ g) (h2 : B.s ≠ g) (h3 : B.a ≠ g) (h4 : B.h ≠ g) (j : Nat) (v : Value) : PoolAt (w2.setCell ⟨g, j, none⟩ v) B p H := ⟨h.obj.setOther h1 v, h.row.setOther h2 v, h.adr.setOther h3 v, h.hld.setOther h4 v, h.ok, h.wf⟩
theorem gv_p (h : PoolAt w2 B p H) (h1 : B.g ≠ g) (h2 : B.s ≠ g) (h3 : B.a ≠ g) (h4 : B.h ≠ g) : PoolAt (((w2.setCell ⟨g, 0, none⟩ y0).setCell ⟨g, 1, none⟩ y1).setCell ⟨g, 2, none⟩ y2) B p H :=
  ((h.setOther h1 h2 h3 h4 0 y0).setOther h1 h2 h3 h4 1 y1).setOther h1 h2 h3 h4 2 y2
end
set_option maxRecDepth 100000 in
set_option maxHeartbeats 4000000 in
theorem pGive_any {w : World} {B : PB} {p : PoolD} {H : List Hd} (hG : Ground w) (h : PoolAt w B p H) (hah : B.a ≠ B.h) {n : ByteArray} (hn : n.size ≤ 281474976710656) :
    Calls Tryd.prog 12 #[.pointer (some ⟨B.g, 0, none⟩), .string n] w (GiveOut B p w (p.give H n)) := by
  have hnm : n.size ≤ maxLen := by unfold maxLen; omega
  obtain ⟨k, hk⟩ : ∃ k, keyH n = k := ⟨_, rfl⟩
  have gf := Lib.hid (gVf hnm hk)
  obtain ⟨W, hW⟩ : ∃ W, w.alloc (.cells #[.bool false, .int .u64 0, .int .u64 0] 29) = W := ⟨_, rfl⟩
  have hbW : Below w.heap.size w W := by rw [← hW]; exact (Below.refl _ _).alloc (Nat.le_refl _) _
  have hr0 : Lies W w.heap.size 29 #[.bool false, .int .u64 0, .int .u64 0] := by rw [← hW]; exact Lies.new _ _ _
  have hpW := h.next hbW
  have HW := Lib.hid hW
  have HBW := Lib.hid hbW
  have HR0 := Lib.hid hr0
  have HPW := Lib.hid hpW
  have HM := Lib.hid (pmade_yes hpW)
  have HP := Lib.hid h
  have HGw := Lib.hid hG
  by_cases h0 : k = []
  · have e0 : eK k = 2 := if_pos h0
    rw [e0] at gf
    have eR : p.give H n = (H, noA, 2) := if_pos (hk.trans h0)
    rw [eR]
    obtain ⟨F, hF⟩ : ∃ F : ByteArray, stv k = .string F := ⟨_, rfl⟩
    rw [hF] at gf
    clear hnm hk hW hbW hr0 hpW h hG h0 e0 eR hF
    go_enter Tryd.func12, Tryd.ntmps12
    go_upto_region 1 with (fail)
    rw [HW.out]
    go_wp2_with (first | (go_at_call 25; refine HM.out.mono ?_; rintro e w1 ⟨rfl, rfl⟩) | (go_at_call 31; refine (gf.out.go _).mono ?_; rintro e w2 ⟨rfl, hb⟩; have hr2 := HR0.out.next hb; obtain ⟨⟨a0, a1, a2⟩, b0, b1, b2⟩ := ad_cells hr2; have HR2 := Lib.hid hr2; have HB2 := Lib.hid (HBW.out.trans (hb.mono HBW.out.size)); clear hb hr2))
    have hb := gv_b (y0 := .bool false) (y1 := .int .u64 0) (y2 := .int .u64 0) HB2.out
    refine bodyPost_ret (ret_ad2 rfl _ _ w.heap.size noA rfl ?_) rfl ⟨rfl, HP.out.next hb, Kq.of_below hb⟩
    exact ((HR2.out.set 0 _).set 1 _).set 2 _
  · have e0 : eK k = 0 := if_neg h0
    rw [e0] at gf
    have eR : p.give H n = p.put H n k := by unfold PoolD.give; rw [hk, if_neg h0]
    rw [eR]
    have HG5 : Hid (∀ wx, Below w.heap.size w wx → Calls Tryd.prog 29 #[.pointer (some ⟨B.g, 0, none⟩), stv k, .string n] wx (GiveOut B p wx (p.put H n k))) := Lib.hid fun wx hb => pgive_any (hG.next hb) (h.next hb) hah hk h0 hn
    obtain ⟨F, hF⟩ : ∃ F : ByteArray, stv k = .string F := ⟨_, rfl⟩
    rw [hF] at gf HG5
    obtain ⟨⟨H', ⟨s, ah, al⟩, er⟩, hR⟩ : ∃ R, p.put H n k = R := ⟨_, rfl⟩
    rw [hR] at HG5 ⊢
    have hav : av (s, ah, al) = .agg #[.bool s, .int .u64 (ah : Int), .int .u64 (al : Int)] := rfl
    unfold GiveOut at HG5
    simp only [hav] at HG5
    clear hnm hk hW hbW hr0 hpW h hG h0 e0 eR hF hav hR
    go_enter Tryd.func12, Tryd.ntmps12
    go_upto_region 1 with (fail)
    rw [HW.out]
    go_wp2_with (first | (go_at_call 25; refine HM.out.mono ?_; rintro e w1 ⟨rfl, rfl⟩) | (go_at_call 31; refine (gf.out.go _).mono ?_; rintro e w2 ⟨rfl, hb⟩; have HR2 := Lib.hid (HR0.out.next hb); have HB2 := Lib.hid (HBW.out.trans (hb.mono HBW.out.size)); clear hb) | (go_at_call 29; refine (HG5.out _ HB2.out).mono ?_; rintro e w3 ⟨rfl, hp3, hk3⟩; have hr3 := hk3.lies HR2.out (by have := HP.out.lt; omega) (by have := HP.out.lt; omega); obtain ⟨⟨a0, a1, a2⟩, b0, b1, b2⟩ := ad_cells hr3; have HR3 := Lib.hid hr3; have HP3 := Lib.hid hp3; have HK3 := Lib.hid hk3; clear hp3 hk3 hr3))
    refine bodyPost_ret (ret_ad2 rfl _ _ w.heap.size (s, ah, al) rfl (((HR3.out.set 0 _).set 1 _).set 2 _)) rfl ⟨rfl, ?_, ?_⟩
    · exact gv_p HP3.out (by have := HP.out.lt; omega) (by have := HP.out.lt; omega) (by have := HP.out.lt; omega) (by have := HP.out.lt; omega)
    · exact ((((Kq.of_below HB2.out).trans HK3.out).setNew (Nat.le_refl _) 0 _).setNew (Nat.le_refl _) 1 _).setNew (Nat.le_refl _) 2 _
end Go.Proofs.YthlabpbplikjbaaDoor
namespace Go.Proofs.YthlabpbplikjbaaDoor
open Go.RowKit Go.Maps Go.Shelf
set_option linter.unusedVariables false

theorem drop_perm {p : PoolD} {H : List Hd} (h : p.Wf H) {k : List UInt8} {x : Hd} (hf : findH H k = some x) : H.Perm (x :: dropH H k) := by
  obtain ⟨hx, hk⟩ := findH_some hf
  have key : ∀ l : List Hd, l.Pairwise (fun x y => keyH x.1 ≠ keyH y.1) → x ∈ l → l.Perm (x :: l.filter fun y => decide (keyH y.1 ≠ k)) := by
    intro l
    induction l with
    | nil => intro _ h; cases h
    | cons y l ih =>
      intro hp hm
      obtain ⟨h1, h2⟩ := List.pairwise_cons.1 hp
      by_cases hy : keyH y.1 = k
      · have e : y = x := by
          rcases List.mem_cons.1 hm with e | hm'
          · exact e.symm
          · exact absurd (hy.trans hk.symm) (h1 x hm')
        subst e
        rw [List.filter_cons_of_neg (by simpa using hy), List.filter_eq_self.2 (fun z hz => by
          have := h1 z hz
          rw [hk] at this
          simpa using this.symm)]
      · have hm' : x ∈ l := (List.mem_cons.1 hm).resolve_left (fun e => hy (by rw [← e]; exact hk))
        rw [List.filter_cons_of_pos (by simpa using hy)]
        exact ((ih h2 hm').cons y).trans (List.Perm.swap x y _)
  exact key H h.keys hx
theorem PoolAt.less {w w' : World} {B : PB} {p : PoolD} {H : List Hd} {k : List UInt8} (h : PoolAt w B p H)
    (hA : MapE Tryd.prog 39 w' B.a (entA (dropH H k))) (hH : MapE Tryd.prog 29 w' B.h (entH (dropH H k))) (hq : Kq B w w') : PoolAt w' B p (dropH H k) :=
  ⟨hq.lies h.obj h.ga h.gh, hq.lies h.row h.sa h.sh, hA, hH, h.ok, h.wf.filter _⟩
/-- What drop leaves. -/
def DropOut (B : PB) (p : PoolD) (w : World) (H' : List Hd) (e : Ending) (w' : World) : Prop := e = .returned (.tuple #[]) ∧ PoolAt w' B p H' ∧ Kq B w w'
set_option maxRecDepth 100000 in
set_option maxHeartbeats 4000000 in
theorem pdrop_any {w : World} {B : PB} {p : PoolD} {H : List Hd} (h : PoolAt w B p H) {k : List UInt8} {x : Hd} (hf : findH H k = some x) :
    Calls Tryd.prog 34 #[.pointer (some ⟨B.g, 0, none⟩), stv k] w (DropOut B p w (dropH H k)) := by
  obtain ⟨hx, hk⟩ := findH_some hf
  have hkm : k.length ≤ maxLen := by rw [← hk]; exact key_max x.1
  have hah : B.a ≠ B.h := h.ah (fun e => by rw [e] at hx; cases hx)
  have hpm := drop_perm h.wf hf
  have hfa := h.wf.fitx h.ok hx
  obtain ⟨F, hF⟩ : ∃ F : ByteArray, stv k = .string F := ⟨_, rfl⟩
  obtain ⟨x1, ⟨s, ah, al⟩⟩ := x
  have c6 : w.cell? ⟨B.g, 6, none⟩ = some (.map (some B.a)) := h.obj.cell 6
  have c7 : w.cell? ⟨B.g, 7, none⟩ = some (.map (some B.h)) := h.obj.cell 7
  have hlk := h.drew.name_yes false hf
  have hP1 : (entH H).Perm ((av (s, ah, al), hdv (x1, (s, ah, al))) :: entH (dropH H k)) := hpm.map _
  have hP2 : (entA H).Perm ((stv k, av (s, ah, al)) :: entA (dropH H k)) := by
    have := hpm.map (fun y : Hd => (stv (keyH y.1), av y.2))
    rw [List.map_cons, hk] at this
    exact this
  obtain ⟨w1, hr1, hM1, hg1, hs1⟩ := h.drew.hld.drop akey Tryd.underlying71 (ty := 0) (keyAv hfa) hP1
  have hA1 := h.drew.adr.grown hg1 (fun e => hah (by injection e))
  obtain ⟨w2, hr2, hM2, hg2, hs2⟩ := hA1.drop skey Tryd.underlying70 (ty := 0) (keyS hkm) hP2
  have ho1 : Lies w1 B.g 73 (poolC p B) := h.obj.drew.grown hg1 (fun e => h.gh (by injection e))
  have d6 : w1.cell? ⟨B.g, 6, none⟩ = some (.map (some B.a)) := ho1.cell 6
  have hq : Kq B w w2 := (Kq.of_h (w := w.drew) hg1 |>.from_drew).trans (Kq.of_a hg2)
  have HX := Lib.hid (And.intro (h.less hM2 (hM1.grown hg2 (fun e => hah (by injection e with e; exact e.symm))) hq) hq)
  rw [hF] at hlk hr2 ⊢
  have hav : av (s, ah, al) = .agg #[.bool s, .int .u64 (ah : Int), .int .u64 (al : Int)] := rfl
  simp only [hav, Bool.false_eq_true, if_false] at hlk hr1
  clear h hx hk hkm hah hpm hfa hP1 hP2 hM1 hA1 hM2 hg1 hg2 hs1 hs2 ho1 hq hav hf hF
  go_enter Tryd.func34, Tryd.ntmps34
  go_wp2
  go_region
  all_goals
    go_wp2
    go_end0
    exact ⟨rfl, HX.out.1, HX.out.2⟩
/-- Who is held behind Drop; the error. -/
def dropE (H : List Hd) (n : ByteArray) : List Hd × Nat := if keyH n = [] then (H, 2) else match findH H (keyH n) with | none => (H, 5) | some _ => (dropH H (keyH n), 0)
def DropOut2 (B : PB) (p : PoolD) (w : World) (R : List Hd × Nat) (e : Ending) (w' : World) : Prop := e = .returned (.int .i64 (R.2 : Int)) ∧ PoolAt w' B p R.1 ∧ Kq B w w'
set_option maxRecDepth 100000 in
set_option maxHeartbeats 4000000 in
theorem pDrop_any {w : World} {B : PB} {p : PoolD} {H : List Hd} (h : PoolAt w B p H) {n : ByteArray} (hn : n.size ≤ maxLen) :
    Calls Tryd.prog 14 #[.pointer (some ⟨B.g, 0, none⟩), .string n] w (DropOut2 B p w (dropE H n)) := by
  obtain ⟨k, hk⟩ : ∃ k, keyH n = k := ⟨_, rfl⟩
  have gf := Lib.hid (gVf hn hk)
  have HM := Lib.hid (pmade_yes h)
  have HP := Lib.hid h
  have hkm : k.length ≤ maxLen := by rw [← hk]; exact key_max n
  obtain ⟨F, hF⟩ : ∃ F : ByteArray, stv k = .string F := ⟨_, rfl⟩
  by_cases h0 : k = []
  · have e0 : eK k = 2 := if_pos h0
    have eR : dropE H n = (H, 2) := if_pos (hk.trans h0)
    rw [e0, hF] at gf
    rw [eR]
    clear h hn hk hkm hF h0 e0 eR
    go_enter Tryd.func14, Tryd.ntmps14
    go_wp2_with (first | (go_at_call 25; refine HM.out.mono ?_; rintro e w1 ⟨rfl, rfl⟩) | (go_at_call 31; refine (gf.out.go _).mono ?_; rintro e w2 ⟨rfl, hb⟩; have HB := Lib.hid hb; clear hb))
    go_ret
    exact ⟨rfl, HP.out.next HB.out, Kq.of_below HB.out⟩
  · have e0 : eK k = 0 := if_neg h0
    rw [e0] at gf
    cases hf : findH H k with
    | none =>
      have eR : dropE H n = (H, 5) := by unfold dropE; rw [hk, if_neg h0, hf]
      rw [eR]
      have HL : Hid (∀ wx, Below w.heap.size w wx → wx.cell? ⟨B.g, 6, none⟩ = some (.map (some B.a)) ∧ (Instr.lookup 70 (.map (some B.a)) (.string F) true).run Tryd.prog wx = .ok (.tuple #[.agg #[.bool false, .int .u64 0, .int .u64 0], .bool false]) wx) := Lib.hid fun wx hb => ⟨(h.next hb).obj.cell 6, by
        have := (h.next hb).name_no hkm hf
        rw [hF] at this
        exact this⟩
      rw [hF] at gf
      clear h hn hk hkm hF h0 e0 eR hf
      go_enter Tryd.func14, Tryd.ntmps14
      go_wp2_with (first | (go_at_call 25; refine HM.out.mono ?_; rintro e w1 ⟨rfl, rfl⟩) | (go_at_call 31; refine (gf.out.go _).mono ?_; rintro e w2 ⟨rfl, hb⟩; obtain ⟨c6, l6⟩ := HL.out _ hb; have HB := Lib.hid hb; clear hb))
      go_ret
      exact ⟨rfl, (HP.out.next HB.out).alloc _, Kq.of_below (HB.out.alloc HB.out.size _)⟩
    | some x =>
      have eR : dropE H n = (dropH H k, 0) := by unfold dropE; rw [hk, if_neg h0, hf]
      rw [eR]
      obtain ⟨x1, ⟨s, ah, al⟩⟩ := x
      have HL : Hid (∀ wx, Below w.heap.size w wx → wx.cell? ⟨B.g, 6, none⟩ = some (.map (some B.a)) ∧ (Instr.lookup 70 (.map (some B.a)) (.string F) true).run Tryd.prog wx = .ok (.tuple #[.agg #[.bool s, .int .u64 (ah : Int), .int .u64 (al : Int)], .bool true]) wx) := Lib.hid fun wx hb => ⟨(h.next hb).obj.cell 6, by
        have := (h.next hb).name_yes true hf
        rw [hF] at this
        exact this⟩
      have HD : Hid (∀ wx, Below w.heap.size w wx → Calls Tryd.prog 34 #[.pointer (some ⟨B.g, 0, none⟩), .string F] wx (DropOut B p wx (dropH H k))) := Lib.hid fun wx hb => by
        have := pdrop_any (h.next hb) hf
        rw [hF] at this
        exact this
      rw [hF] at gf
      clear h hn hk hkm hF h0 e0 eR hf
      go_enter Tryd.func14, Tryd.ntmps14
      go_wp2_with (first | (go_at_call 25; refine HM.out.mono ?_; rintro e w1 ⟨rfl, rfl⟩) | (go_at_call 31; refine (gf.out.go _).mono ?_; rintro e w2 ⟨rfl, hb⟩; obtain ⟨c6, l6⟩ := HL.out _ hb; have HB := Lib.hid hb; clear hb) | (go_at_call 34; refine (HD.out _ (HB.out.alloc HB.out.size _)).mono ?_; rintro e w3 ⟨rfl, hp3, hk3⟩; have HX := Lib.hid (And.intro hp3 ((Kq.of_below (HB.out.alloc HB.out.size _)).trans hk3)); clear hp3 hk3))
      go_ret
      exact ⟨rfl, HX.out.1, HX.out.2⟩
end Go.Proofs.YthlabpbplikjbaaDoor
namespace Go.Proofs.YthlabpbplikjbaaDoor
open Go.RowKit Go.Maps Go.Shelf
set_option linter.unusedVariables false

def strsV (L : List ByteArray) : List Value := L.map Value.string
def foldB (n : ByteArray) : ByteArray := ⟨(keyH n).toArray⟩
theorem infoN : (Tryd.prog.info? 39).map (fun i => (i.zero, i.size, i.bytes)) = some (some (.string ⟨#[]⟩), 1, 16) := by kernel_rfl
/-- What foldAll hands back. -/
def FaOut (NS : List ByteArray) (w : World) (e : Ending) (w' : World) : Prop :=
  ((∀ n ∈ NS, keyH n ≠ []) → ∃ v, e = .returned (.tuple #[v, .int .i64 0]) ∧ SRow w' v (NS.map foldB)) ∧ ((∃ n ∈ NS, keyH n = []) → e = .returned (.tuple #[.slice none 0 0, .int .i64 2])) ∧ Below w.heap.size w w'
def FaRel (NS : List ByteArray) (w : World) (v4 v14 : Value) (wr : World) : Prop :=
  ∃ k : Nat, v14 = .int .i64 (k : Nat) ∧ k ≤ NS.length ∧ (∀ n ∈ NS.take k, keyH n ≠ []) ∧ wr.ownsRow w.heap.size 39 1 v4 k (strsV ((NS.take k).map foldB)) ∧ Below w.heap.size w wr
theorem srow_at {w : World} {v : Value} {L : List ByteArray} (h : SRow w v L) : ∃ A cap, v = .slice A L.length cap ∧ L.length ≤ cap ∧ cap ≤ maxLen ∧ ∀ j (h : j < L.length), ∃ g o, A = some ⟨g, o, none⟩ ∧ g < w.heap.size ∧ w.cell? ⟨g, o + j, none⟩ = some (.string L[j]) := by
  rcases h with ⟨A, rfl, rfl⟩ | ⟨g, off, cap, h1, h2, h3, h4, h5⟩
  · exact ⟨A, 0, rfl, Nat.le_refl _, Nat.zero_le _, fun j hj => by cases hj⟩
  · exact ⟨_, cap, h1, h3, h4, fun j hj => ⟨g, off, rfl, h2, h5 j hj⟩⟩
theorem own_shape {w : World} {base : Nat} {e : TypeId} {size : Nat} {v : Value} {n : Nat} {xs : List Value} (h : w.ownsRow base e size v n xs) : ∃ A cap, v = .slice A n cap := by
  rcases h.2 with ⟨rfl, hn⟩ | ⟨g, cap, cur, rfl, _⟩
  · exact ⟨none, 0, by rw [hn]⟩
  · exact ⟨_, cap, rfl⟩
set_option maxRecDepth 100000 in
set_option maxHeartbeats 4000000 in
theorem foldAll_any {v : Value} {NS : List ByteArray} {w : World} (hrow : SRow w v NS) (hs : ∀ n ∈ NS, n.size ≤ maxLen) (hl : NS.length ≤ 100000) :
    Calls Tryd.prog 26 #[v] w (FaOut NS w) := by
  obtain ⟨A, cap, rfl, hlc, hcm, hat⟩ := srow_at hrow
  obtain ⟨i0, hi, hz0, hz1, hz2⟩ := info_parts infoN
  have HAt := Lib.hid hat
  have HSz := Lib.hid hs
  have HI := Lib.hid hi
  have HZ0 := Lib.hid hz0
  have HZ1 := Lib.hid hz1
  have HZ2 := Lib.hid hz2
  have hbz : i0.bytes * NS.length ≤ 281474976710656 := by rw [hz2]; omega
  have HBz := Lib.hid hbz
  have HHl := Lib.hid hl
  unfold maxLen at hcm
  obtain ⟨Post, hPost⟩ : ∃ Post, Post = FaOut NS w := ⟨_, rfl⟩
  have HP1 : Hid (∀ v wx, (∀ n ∈ NS, keyH n ≠ []) → SRow wx v (NS.map foldB) → Below w.heap.size w wx → Post (.returned (.tuple #[v, .int .i64 0])) wx) := Lib.hid fun v wx h1 h2 h3 => by
    rw [hPost]
    exact ⟨fun _ => ⟨v, rfl, h2⟩, fun ⟨n, hn, h⟩ => absurd h (h1 n hn), h3⟩
  have HP2 : Hid (∀ wx n, n ∈ NS → keyH n = [] → Below w.heap.size w wx → Post (.returned (.tuple #[.slice none 0 0, .int .i64 2])) wx) := Lib.hid fun wx n hn h1 h3 => by
    rw [hPost]
    exact ⟨fun h => absurd h1 (h n hn), fun _ => rfl, h3⟩
  rw [← hPost]
  clear hat hrow hs hi hz0 hz1 hz2 hPost hbz hl
  go_enter Tryd.func26, Tryd.ntmps26
  go_wp2_with (at_make; refine wpList_make_own _ rfl _ _ 36 rfl w.heap.size 39 i0 (.string ⟨#[]⟩) 1 Tryd.underlying36 HI.out HZ0.out HZ1.out .i64 .i64 _ NS.length rfl rfl rfl HBz.out (by unfold maxLen; have := HHl.out; omega) (Nat.le_refl _) ?_; intro w1 hrow hgr; have HR0 : Hid (FaRel NS w (.slice (some ⟨w.heap.size, 0, none⟩) 0 NS.length) (.int .i64 0) w1) := Lib.hid ⟨0, rfl, Nat.zero_le _, fun n hn => (by rw [List.take_zero] at hn; cases hn), hrow, ⟨hgr.os, hgr.tape, hgr.output, hgr.size, fun k hk => hgr.block k hk (fun e => by cases e)⟩⟩; clear hrow hgr)
  go_loopw [4, 14] (fun v4 v14 wr => FaRel NS w v4 v14 wr) (fun _ v14 _ => NS.length - (intOf v14).toNat)
  case atStart => exact HR0.out
  case round =>
    clear HR0
    obtain ⟨k, rfl, hk, hall, hrow, hb⟩ := hrel
    obtain ⟨A4, cap4, rfl⟩ := own_shape hrow
    have HA := Lib.hid hall
    have HB := Lib.hid hb
    have HRw := Lib.hid hrow
    clear hall hb hrow
    rcases Nat.lt_or_ge k NS.length with hlt | hge
    · obtain ⟨g, off, rfl, hgw, hcell⟩ := HAt.out k hlt
      have hkI : (k : Int) < (NS.length : Int) := by omega
      have HKL : Hid (k + 1 ≤ NS.length) := Lib.hid hlt
      obtain ⟨n, hn⟩ : ∃ n, NS[k] = n := ⟨_, rfl⟩
      have hmem : n ∈ NS := by rw [← hn]; exact List.getElem_mem hlt
      have hc : wr.cell? ⟨g, off + k, none⟩ = some (.string n) := by rw [← hn]; exact (HB.out.cell (p := ⟨g, off + k, none⟩) hgw).trans hcell
      have HMem := Lib.hid hmem
      have HTk : Hid (NS.take (k + 1) = NS.take k ++ [n]) := Lib.hid (by rw [List.take_succ_eq_append_getElem hlt]; exact congrArg (fun x => NS.take k ++ [x]) hn)
      have gf := Lib.hid (gVf (HSz.out n hmem) (k := keyH n) rfl)
      obtain ⟨F, hF⟩ : ∃ F, foldB n = F := ⟨_, rfl⟩
      have e1 : stv (keyH n) = .string F := by rw [← hF]; rfl
      rw [e1] at gf
      have HF := Lib.hid hF
      by_cases h0 : keyH n = []
      · have e0 : eK (keyH n) = 2 := if_pos h0
        rw [e0] at gf
        have H0 := Lib.hid h0
        clear hn hmem hcell hF e1 h0 e0
        go_wp2_with (go_at_call 31; refine (gf.out.go _).mono ?_; rintro e w2 ⟨rfl, hb⟩; have HB2 := Lib.hid (HB.out.trans (hb.mono HB.out.size)); clear hb)
        exact HP2.out _ n HMem.out H0.out HB2.out
      · have e0 : eK (keyH n) = 0 := if_neg h0
        rw [e0] at gf
        have H0 : Hid (keyH n ≠ []) := Lib.hid h0
        clear hn hmem hcell hF e1 h0 e0
        go_wp2_with (first | (go_at_call 31; refine (gf.out.go _).mono ?_; rintro e w2 ⟨rfl, hb⟩; have HB2 := Lib.hid (HB.out.trans (hb.mono HB.out.size)); have HR2 := Lib.hid (HRw.out.kept (below_to_grown (r := none) hb) (Classical.em _)); clear hb) | (at_builtin; refine wpList_append_own _ rfl _ _ 36 rfl w.heap.size 39 i0 (.string ⟨#[]⟩) 1 16 Tryd.underlying36 HI.out HZ0.out HZ1.out HZ2.out rfl (by decide) _ _ _ rfl (HR2.out.kept (World.grownBy_alloc w2 _ none) (Classical.em _)) ⟨w2.heap.size, 0, none⟩ 1 1 [.string F] rfl rfl (cell_one_new _ _ _) (by simp [Value.oneCell']) (by unfold maxLen; have := HHl.out; omega) (by have := HHl.out; omega) (by have := HB2.out.size; simp; omega) ?_; intro v' w3 hown' hgrow _; have HO3 := Lib.hid hown'; have HG3 := Lib.hid hgrow; clear hown' hgrow))
        go_roundw
        case rel =>
          refine ⟨k + 1, by go_num, HKL.out, ?_, ?_, ?_⟩
          · intro x hx
            rw [HTk.out] at hx
            rcases List.mem_append.1 hx with h' | h'
            · exact HA.out x h'
            · rw [List.mem_singleton] at h'; subst h'; exact H0.out
          · rw [HTk.out, List.map_append]
            unfold strsV
            rw [List.map_append, List.map_singleton, List.map_singleton, HF.out]
            exact HO3.out
          · exact (HB2.out.trans (((Below.refl _ _).alloc (Nat.le_refl _) _).mono HB2.out.size)).grown HG3.out (by have := HB2.out.size; simp; omega) (fun j hj => (own_block HR2.out hj).1)
        case measure => simp [intOf]; omega
    · obtain rfl : k = NS.length := by omega
      have HNk : Hid (NS.take NS.length = NS) := Lib.hid (List.take_of_length_le (Nat.le_refl _))
      go_wp2
      exact HP1.out _ _ (by have := HA.out; rw [HNk.out] at this; exact this) (by
        have := HRw.out
        rw [HNk.out] at this
        exact SRow.of_own (t := 39) (base := w.heap.size) (by rw [List.length_map]; exact this)) HB.out
end Go.Proofs.YthlabpbplikjbaaDoor
namespace Go.Proofs.YthlabpbplikjbaaDoor
open Go.RowKit Go.Maps Go.Shelf
set_option linter.unusedVariables false

theorem skeyI {s : ByteArray} (h : s.size ≤ maxLen) : keyOf Tryd.prog 39 (.string s) = some (.string s.data.toList) := WideMaps.keyOf_string_mk Tryd.underlying39 h
/-- Place i is where its host came first. -/
def isFst (L : List ByteArray) (i : Nat) : Prop := ∃ h : i < L.length, L[i] ∉ L.take i
theorem fst_of {L : List ByteArray} {x : ByteArray} {k : Nat} (h : x ∈ L.take k) : ∃ (i : Nat) (hi : i < L.length), i < k ∧ L[i] = x ∧ isFst L i := by
  induction k with
  | zero => rw [List.take_zero] at h; cases h
  | succ k ih =>
    by_cases hk : x ∈ L.take k
    · obtain ⟨i, hi, h1, h2, h3⟩ := ih hk
      exact ⟨i, hi, by omega, h2, h3⟩
    · rcases Nat.lt_or_ge k L.length with hl | hl
      · rw [List.take_succ_eq_append_getElem hl] at h
        rcases List.mem_append.1 h with h' | h'
        · exact absurd h' hk
        · rw [List.mem_singleton] at h'
          exact ⟨k, hl, by omega, h'.symm, hl, by rw [← h']; exact hk⟩
      · rw [List.take_of_length_le (by omega)] at h hk
        exact absurd h hk
/-- A map of where the first k came first. -/
structure FirM (w : World) (b k : Nat) (L : List ByteArray) : Prop where
  ex : ∃ E, MapE Tryd.prog 39 w b E ∧ E.length ≤ k ∧ (∀ q ∈ E, ∃ (i : Nat) (hi : i < L.length), i < k ∧ isFst L i ∧ q = (.string L[i], .int .i64 (i : Int))) ∧ ∀ (i : Nat) (hi : i < L.length), i < k → isFst L i → ((.string L[i], .int .i64 (i : Int)) : Value × Value) ∈ E
section
variable {w w' : World} {b k : Nat} {L : List ByteArray}
theorem FirM.same (h : FirM w b k L) (hs : w'.heap[b]? = w.heap[b]?) : FirM w' b k L := by obtain ⟨E, h1, h2⟩ := h.ex; exact ⟨E, h1.same hs, h2⟩
theorem FirM.lt (h : FirM w b k L) : b < w.heap.size := by obtain ⟨E, h1, h2⟩ := h.ex; exact h1.lt
theorem FirM.next (h : FirM w b k L) (hb : Below w.heap.size w w') : FirM w' b k L := h.same (hb.block b h.lt)
theorem FirM.new (w : World) (L : List ByteArray) : FirM (w.alloc (.map #[] 0)) w.heap.size 0 L := ⟨[], MapE.new _ _ _, Nat.le_refl _, fun q h => (by cases h), fun i _ h => absurd h (Nat.not_lt_zero i)⟩
theorem FirM.yes (c : Bool) (h : FirM w b k L) {x : ByteArray} (hx : x.size ≤ maxLen) (hm : x ∈ L.take k) : ∃ (i : Nat) (hi : i < L.length), i < k ∧ L[i] = x ∧ isFst L i ∧ (Instr.lookup 74 (.map (some b)) (.string x) c).run Tryd.prog w = .ok (if c then .tuple #[.int .i64 (i : Int), .bool true] else .int .i64 (i : Int)) w := by
  obtain ⟨E, h1, h0, h2, h3⟩ := h.ex
  obtain ⟨i, hi, hik, e, hf⟩ := fst_of hm
  refine ⟨i, hi, hik, e, hf, ?_⟩
  have := h3 i hi hik hf
  rw [e] at this
  exact h1.look_yes c skey Tryd.underlying74 (skeyI hx) this
theorem FirM.no (c : Bool) (h : FirM w b k L) {x : ByteArray} (hx : x.size ≤ maxLen) (hm : x ∉ L.take k) : (Instr.lookup 74 (.map (some b)) (.string x) c).run Tryd.prog w = .ok (if c then .tuple #[.int .i64 0, .bool false] else .int .i64 0) w := by
  obtain ⟨E, h1, h0, h2, h3⟩ := h.ex
  refine h1.look_no c skey Tryd.underlying74 (Tryd.zeroValue3 w) (skeyI hx) fun q hq e => hm ?_
  obtain ⟨i, hi, hik, _, rfl⟩ := h2 q hq
  injection e with e
  exact List.mem_take_iff_getElem.2 ⟨i, by omega, e⟩
theorem FirM.skip (h : FirM w b k L) (hk : k < L.length) (hm : L[k] ∈ L.take k) : FirM w b (k + 1) L := by
  obtain ⟨E, h1, h0, h2, h3⟩ := h.ex
  refine ⟨E, h1, by omega, fun q hq => ?_, fun i hi hik hf => ?_⟩
  · obtain ⟨i, hi, hik, r⟩ := h2 q hq
    exact ⟨i, hi, by omega, r⟩
  · rcases Nat.lt_or_ge i k with h' | h'
    · exact h3 i hi h' hf
    · obtain rfl : i = k := by omega
      exact absurd hm hf.2
theorem FirM.put (h : FirM w b k L) (hk : k < L.length) (hl : L.length ≤ 100000) (hx : L[k].size ≤ maxLen) (hm : L[k] ∉ L.take k) :
    ∃ w', (Instr.mapUpdate 74 (.map (some b)) (.string L[k]) (.int .i64 (k : Int))).run Tryd.prog w = .ok () w' ∧ FirM w' b (k + 1) L ∧ w.grownBy w' (some b) := by
  obtain ⟨E, h1, h0, h2, h3⟩ := h.ex
  obtain ⟨w', hr, hM, hg, _⟩ := h1.put skey Tryd.underlying74 (val := .int .i64 (k : Int)) (by unfold maxLen; omega) (skeyI hx) (fun q hq e => hm (by
    obtain ⟨i, hi, hik, _, rfl⟩ := h2 q hq
    injection e with e
    exact List.mem_take_iff_getElem.2 ⟨i, by omega, e⟩))
  refine ⟨w', hr, ⟨_, hM, by simp; omega, fun q hq => ?_, fun i hi hik hf => ?_⟩, hg⟩
  · rcases List.mem_append.1 hq with h' | h'
    · obtain ⟨i, hi, hik, r⟩ := h2 q h'
      exact ⟨i, hi, by omega, r⟩
    · rw [List.mem_singleton] at h'
      exact ⟨k, hk, by omega, ⟨hk, hm⟩, h'⟩
  · rcases Nat.lt_or_ge i k with h' | h'
    · exact List.mem_append_left _ (h3 i hi h' hf)
    · obtain rfl : i = k := by omega
      exact List.mem_append_right _ (by simp)
end
def FirOut (L : List ByteArray) (w : World) (e : Ending) (w' : World) : Prop := ∃ b, e = .returned (.map (some b)) ∧ w.heap.size ≤ b ∧ FirM w' b L.length L ∧ Below w.heap.size w w'
def FirRel (L : List ByteArray) (w : World) (v11 : Value) (wr : World) : Prop := ∃ k : Nat, v11 = .int .i64 (k : Nat) ∧ k ≤ L.length ∧ FirM wr w.heap.size k L ∧ Below w.heap.size w wr
set_option maxRecDepth 100000 in
set_option maxHeartbeats 4000000 in
theorem firsts_any {v : Value} {L : List ByteArray} {w : World} (hrow : SRow w v L) (hs : ∀ n ∈ L, n.size ≤ maxLen) (hl : L.length ≤ 100000) :
    Calls Tryd.prog 27 #[v] w (FirOut L w) := by
  obtain ⟨A, cap, rfl, hlc, hcm, hat⟩ := srow_at hrow
  have HAt := Lib.hid hat
  have HSz := Lib.hid hs
  have HHl := Lib.hid hl
  unfold maxLen at hcm
  have HR0 : Hid (FirRel L w (.int .i64 0) (w.alloc (.map #[] 0))) := Lib.hid ⟨0, rfl, Nat.zero_le _, FirM.new w L, (Below.refl _ _).alloc (Nat.le_refl _) _⟩
  clear hat hrow hs hl
  have hmm := @run_makeMap Tryd.prog
  go_enter Tryd.func27, Tryd.ntmps27
  go_wp2
  clear hmm
  go_loopw [11] (fun v11 wr => FirRel L w v11 wr) (fun v11 _ => L.length - (intOf v11).toNat)
  case atStart => exact HR0.out
  case round =>
    clear HR0
    obtain ⟨k, rfl, hk, hM, hb⟩ := hrel
    have HM := Lib.hid hM
    have HB := Lib.hid hb
    clear hM hb
    rcases Nat.lt_or_ge k L.length with hlt | hge
    · obtain ⟨g, off, rfl, hgw, hcell⟩ := HAt.out k hlt
      have hkI : (k : Int) < (L.length : Int) := by omega
      have HKL : Hid (k + 1 ≤ L.length) := Lib.hid hlt
      have hsz := HSz.out L[k] (List.getElem_mem hlt)
      by_cases hm : L[k] ∈ L.take k
      · obtain ⟨i, hi, hik, e, hf, hlk⟩ := HM.out.yes true hsz hm
        have HM2 := Lib.hid (HM.out.skip hlt hm)
        obtain ⟨n, hn⟩ : ∃ n, L[k] = n := ⟨_, rfl⟩
        have hc : wr.cell? ⟨g, off + k, none⟩ = some (.string n) := by rw [← hn]; exact (HB.out.cell (p := ⟨g, off + k, none⟩) hgw).trans hcell
        rw [hn] at hlk
        simp only [if_true] at hlk
        clear hsz hm hi hik e hf hn hcell HM
        go_wp2
        go_roundw
        case rel => exact ⟨k + 1, by go_num, HKL.out, HM2.out, HB.out⟩
        case measure => simp [intOf]; omega
      · have hlk := HM.out.no true hsz hm
        obtain ⟨w2, hr2, hM2, hg2⟩ := HM.out.put hlt HHl.out hsz hm
        have HM2 := Lib.hid hM2
        have HG2 := Lib.hid hg2
        obtain ⟨n, hn⟩ : ∃ n, L[k] = n := ⟨_, rfl⟩
        have hc : wr.cell? ⟨g, off + k, none⟩ = some (.string n) := by rw [← hn]; exact (HB.out.cell (p := ⟨g, off + k, none⟩) hgw).trans hcell
        replace hlk : (Instr.lookup 74 (.map (some w.heap.size)) (.string n) true).run Tryd.prog wr = .ok (if true then .tuple #[.int .i64 0, .bool false] else .int .i64 0) wr := by rw [← hn]; exact hlk
        replace hr2 : (Instr.mapUpdate 74 (.map (some w.heap.size)) (.string n) (.int .i64 (k : Int))).run Tryd.prog wr = .ok () w2 := by rw [← hn]; exact hr2
        simp only [if_true] at hlk
        clear hsz hm hn hcell HM hM2 hg2
        go_wp2
        go_roundw
        case rel => exact ⟨k + 1, by go_num, HKL.out, HM2.out, HB.out.grown HG2.out HB.out.size (fun j hj => by injection hj with hj; omega)⟩
        case measure => simp [intOf]; omega
    · obtain rfl : k = L.length := by omega
      go_wp2
      go_ret
      exact ⟨w.heap.size, rfl, Nat.le_refl _, HM.out, HB.out⟩
end Go.Proofs.YthlabpbplikjbaaDoor
namespace Go.Proofs.YthlabpbplikjbaaDoor
open Go.RowKit Go.Maps Go.Shelf
set_option linter.unusedVariables false

/-- A copy: on its own but for the row of places. -/
def CloneOut (B : PB) (p : PoolD) (H : List Hd) (w : World) (e : Ending) (w' : World) : Prop :=
  ∃ B' : PB, e = .returned (.pointer (some ⟨B'.g, 0, none⟩)) ∧ PoolAt w' B' p H ∧ B'.a ≠ B'.h ∧ w.heap.size ≤ B'.g ∧ w.heap.size ≤ B'.a ∧ w.heap.size ≤ B'.h ∧ B'.s = B.s ∧ Below w.heap.size w w'
/-- A map's copy, in a block of its own. -/
def CopyOut (k : TypeId) (E : List (Value × Value)) (w : World) (e : Ending) (w' : World) : Prop := ∃ g, e = .returned (.map (some g)) ∧ MapE Tryd.prog k w' g E ∧ w.heap.size ≤ g ∧ Below w.heap.size w w'
theorem copy_out {k : TypeId} {E : List (Value × Value)} {es : Array MapEntry} {ck : Nat} {w : World} (h : Ents Tryd.prog k es ck E) : CopyOut k E w (.returned (.map (some w.heap.size))) (w.alloc (.map es ck)) :=
  ⟨w.heap.size, rfl, ⟨es, ck, (MapKept.heap_alloc w _).1, h⟩, Nat.le_refl _, (Below.refl _ _).alloc (Nat.le_refl _) _⟩
set_option maxRecDepth 100000 in
set_option maxHeartbeats 4000000 in
theorem pClone_any {w : World} {B : PB} {p : PoolD} {H : List Hd} (h : PoolAt w B p H) :
    Calls Tryd.prog 13 #[.pointer (some ⟨B.g, 0, none⟩)] w (CloneOut B p H w) := by
  have HM := Lib.hid (pmade_yes h)
  have HP := Lib.hid h
  obtain ⟨es, ck, hA, hEA⟩ := h.adr
  obtain ⟨et, cl, hH, hEH⟩ := h.hld
  have HCa : Hid (∀ wx, Below w.heap.size w wx → Calls Tryd.prog 32 #[.map (some B.a)] wx (CopyOut 39 (entA H) wx)) := Lib.hid fun wx hb => (AnyW.maps_Clone Tryd.laysCa B.a es ck wx ((hb.block B.a h.adr.lt).trans hA)).mono (by rintro e w' ⟨rfl, rfl⟩; exact copy_out hEA)
  have HCh : Hid (∀ wx, Below w.heap.size w wx → Calls Tryd.prog 33 #[.map (some B.h)] wx (CopyOut 29 (entH H) wx)) := Lib.hid fun wx hb => (AnyW.maps_Clone Tryd.laysCh B.h et cl wx ((hb.block B.h h.hld.lt).trans hH)).mono (by rintro e w' ⟨rfl, rfl⟩; exact copy_out hEH)
  have c0 : w.cell? ⟨B.g, 0, none⟩ = some (.bool p.r.1) := h.obj.cell 0
  have c1 : w.cell? ⟨B.g, 1, none⟩ = some (.int .u64 (p.r.2.1 : Int)) := h.obj.cell 1
  have c2 : w.cell? ⟨B.g, 2, none⟩ = some (.int .u64 (p.r.2.2 : Int)) := h.obj.cell 2
  have c3 : w.cell? ⟨B.g, 3, none⟩ = some (.int .i64 p.b) := h.obj.cell 3
  have c4 : w.cell? ⟨B.g, 4, none⟩ = some (.slice (some ⟨B.s, 0, none⟩) p.sz p.sz) := h.obj.cell 4
  have c5 : w.cell? ⟨B.g, 5, none⟩ = some (.int .i64 (p.room : Int)) := h.obj.cell 5
  have c6 : w.cell? ⟨B.g, 6, none⟩ = some (.map (some B.a)) := h.obj.cell 6
  have c7 : w.cell? ⟨B.g, 7, none⟩ = some (.map (some B.h)) := h.obj.cell 7
  have c8 : w.cell? ⟨B.g, 8, none⟩ = some (.pointer (some ⟨B.g, 0, none⟩)) := h.obj.cell 8
  clear hA hH hEA hEH h
  go_enter Tryd.func13, Tryd.ntmps13
  go_upto_region 4 with (go_at_call 25; refine HM.out.mono ?_; rintro e w1 ⟨rfl, rfl⟩)
  obtain ⟨W, hW⟩ : ∃ W, w.alloc (.cells (poolC p B) 73) = W := ⟨_, rfl⟩
  have hbW : Below w.heap.size w W := by rw [← hW]; exact (Below.refl _ _).alloc (Nat.le_refl _) _
  have hlW : Lies W w.heap.size 73 (poolC p B) := by rw [← hW]; exact Lies.new _ _ _
  have hzW : W.heap.size = w.heap.size + 1 := by rw [← hW]; simp
  have hpW := HP.out.next hbW
  unfold poolC at hW
  rw [hW]
  clear hW c0 c1 c2 c3 c4 c5 c6 c7 c8
  have HBW := Lib.hid hbW
  have HLW := Lib.hid hlW
  have HZW := Lib.hid hzW
  have c6 : W.cell? ⟨B.g, 6, none⟩ = some (.map (some B.a)) := hpW.obj.cell 6
  have c7 : W.cell? ⟨B.g, 7, none⟩ = some (.map (some B.h)) := hpW.obj.cell 7
  have hgl : B.g < W.heap.size := hpW.obj.lt
  have HPW := Lib.hid hpW
  clear hbW hlW hzW hpW
  go_region_with (first | (go_at_call 32; refine (HCa.out _ HBW.out.drew).mono ?_; rintro e w4 ⟨ga, rfl, hma, hga, hb4⟩; have c7b : w4.cell? ⟨B.g, 7, none⟩ = some (.map (some B.h)) := (HPW.out.drew.obj.next hb4).cell 7; have HMa := Lib.hid hma; have HGa := Lib.hid hga; have HB4 := Lib.hid hb4; clear hma hga hb4) | (go_at_call 33; refine (HCh.out _ (HBW.out.drew.trans (HB4.out.mono HBW.out.drew.size))).mono ?_; rintro e w5 ⟨gh, rfl, hmh, hgh, hb5⟩; have hlX := (HLW.out.drew.next HB4.out).next hb5; have x6 : w5.cell? ⟨w.heap.size, 6, none⟩ = some (.map (some B.a)) := hlX.cell 6; have y6 := hlX.free 6; have x7 : (w5.setCell ⟨w.heap.size, 6, none⟩ (.map (some ga))).cell? ⟨w.heap.size, 7, none⟩ = some (.map (some B.h)) := (hlX.set 6 (.map (some ga))).cell 7; have y7 := (hlX.set 6 (.map (some ga))).free 7; have HMh := Lib.hid hmh; have HGh := Lib.hid hgh; have HB5 := Lib.hid hb5; have HLX := Lib.hid hlX; clear hmh hgh hb5 hlX))
  all_goals
    have x8 : ((w5.setCell ⟨w.heap.size, 6, none⟩ (.map (some ga))).setCell ⟨w.heap.size, 7, none⟩ (.map (some gh))).cell? ⟨w.heap.size, 8, none⟩ = some (.pointer (some ⟨B.g, 0, none⟩)) := ((HLX.out.set 6 _).set 7 _).cell 8
    have y8 : ((w5.setCell ⟨w.heap.size, 6, none⟩ (.map (some ga))).setCell ⟨w.heap.size, 7, none⟩ (.map (some gh))).frozen? ⟨w.heap.size, 8, none⟩ = false := ((HLX.out.set 6 _).set 7 _).free 8
    have hlt := HP.out.lt
    have hb : Below w.heap.size w w5 := (HBW.out.drew.trans (HB4.out.mono HBW.out.drew.size)).trans (HB5.out.mono (Nat.le_trans HBW.out.drew.size HB4.out.size))
    have hW1 : W.drew.heap.size = w.heap.size + 1 := HZW.out
    have hga := HGa.out
    have hgh := HGh.out
    have hal := HMa.out.lt
    have hX : Hid (CloneOut B p H w (.returned (.pointer (some ⟨w.heap.size, 0, none⟩))) (((w5.setCell ⟨w.heap.size, 6, none⟩ (.map (some ga))).setCell ⟨w.heap.size, 7, none⟩ (.map (some gh))).setCell ⟨w.heap.size, 8, none⟩ (.pointer (some ⟨w.heap.size, 0, none⟩)))) := Lib.hid (by
      refine ⟨⟨w.heap.size, B.s, ga, gh⟩, rfl, ⟨?_, ?_, ?_, ?_, HP.out.ok, HP.out.wf⟩, ?_, Nat.le_refl _, ?_, ?_, rfl, ?_⟩
      · exact ((HLX.out.set 6 _).set 7 _).set 8 _
      · exact (((HP.out.row.below hb hlt.2.1).setOther (by omega) _).setOther (by omega) _).setOther (by omega) _
      · exact (((HMa.out.next HB5.out).setOther (by omega) _).setOther (by omega) _).setOther (by omega) _
      · exact ((HMh.out.setOther (by omega) _).setOther (by omega) _).setOther (by omega) _
      · show ga ≠ gh
        omega
      · show w.heap.size ≤ ga
        omega
      · show w.heap.size ≤ gh
        have := HB4.out.size
        omega
      · exact ((hb.setCell (p := ⟨w.heap.size, 6, none⟩) (Nat.le_refl _) _).setCell (p := ⟨w.heap.size, 7, none⟩) (Nat.le_refl _) _).setCell (p := ⟨w.heap.size, 8, none⟩) (Nat.le_refl _) _)
    clear hlt hb hW1 hga hgh hal x6 y6 x7 y7
    go_wp2
    go_ret
    exact hX.out
end Go.Proofs.YthlabpbplikjbaaDoor
namespace Go.Proofs.YthlabpbplikjbaaDoor
open Go.RowKit Go.Maps Go.Shelf
set_option linter.unusedVariables false

/-- What a law holds: one pool, boxes of its own, the tables. -/
structure Lv (w wr : World) (B : PB) (p : PoolD) (H : List Hd) (L : List (Nat × TypeId × Array Value)) : Prop where
  bx : Bx w wr L
  at_ : PoolAt wr B p H
  ah : B.a ≠ B.h
  ge : w.heap.size ≤ B.a ∧ w.heap.size ≤ B.h
  ne : ∀ x ∈ L, x.1 ≠ B.a ∧ x.1 ≠ B.h
  gr : Ground wr
section
variable {w wr w' : World} {B : PB} {p : PoolD} {H H' : List Hd} {L : List (Nat × TypeId × Array Value)}
theorem Lv.next (h : Lv w wr B p H L) (hb : Below wr.heap.size wr w') : Lv w w' B p H L := ⟨h.bx.next hb, h.at_.next hb, h.ah, h.ge, h.ne, h.gr.next hb⟩
theorem Lv.box (h : Lv w wr B p H L) (t : TypeId) (cs : Array Value) : Lv w (wr.alloc (.cells cs t)) B p H ((wr.heap.size, t, cs) :: L) :=
  ⟨h.bx.more t cs, h.at_.alloc _, h.ah, h.ge, fun x hx => by
    rcases List.mem_cons.1 hx with rfl | hx
    · have := h.at_.lt
      simp only
      omega
    · exact h.ne x hx, h.gr.next ((Below.refl _ _).alloc (Nat.le_refl _) _)⟩
theorem Kq.grd (hq : Kq B wr w') (hg : Ground wr) (hb : Below w.heap.size w wr) (h1 : w.heap.size ≤ B.a) (h2 : w.heap.size ≤ B.h) (hw : Ground w) : Ground w' :=
  hw.next (hb.trans (hq.below hb.size h1 h2))
theorem Lv.act (h : Lv w wr B p H L) (hq : Kq B wr w') (hp : PoolAt w' B p H') (hw : Ground w) : Lv w w' B p H' L :=
  ⟨⟨h.bx.bel.trans (hq.below h.bx.bel.size h.ge.1 h.ge.2), fun x hx => hq.lies (h.bx.all x hx) (h.ne x hx).1 (h.ne x hx).2⟩, hp, h.ah, h.ge, h.ne, hq.grd h.gr h.bx.bel h.ge.1 h.ge.2 hw⟩
theorem Lv.cell (h : Lv w wr B p H L) {g : Nat} {t : TypeId} {cs : Array Value} (hm : (g, t, cs) ∈ L) (j : Nat) : wr.cell? ⟨g, j, none⟩ = cs[j]? := Lies.cell (h.bx.at hm) j
end
def p2 : PoolD := ⟨(false, 0, 167772160), 31, []⟩
theorem infoPl : (Tryd.prog.info? 34).map (·.size) = some 5 := by kernel_rfl
theorem two_any : ∀ w : World, Calls Tryd.prog 9 #[] w fun e w' => e = .returned (pv p2 (.slice none 0 0)) ∧ Below w.heap.size w w' := fun w => by
  go_enter Tryd.func9, Tryd.ntmps9
  go_wp2
  exact bodyPost_ret (results_cell_row rfl _ _ w.heap.size _ _ _ _ rfl (Lies.new _ _ _) Tryd.underlying34 rfl infoPl) rfl ⟨rfl, (Below.refl _ _).alloc (Nat.le_refl _) _⟩
theorem row_nil (w : World) : RgRow w (.slice none 0 0) [] := ⟨⟨none, 0, rfl, Nat.le_refl _, by decide, fun j h => by cases h⟩, fun x h => by cases h⟩
def nA : ByteArray := ⟨#[1, 97]⟩
def nB : ByteArray := ⟨#[1, 98]⟩
def nC : ByteArray := ⟨#[1, 99]⟩
def nAA : ByteArray := ⟨#[1, 65]⟩
def L1 := p2.give [] nA
def L2 := p2.give L1.1 nB
def L3 := p2.give L2.1 nC
def L4 := dropE L3.1 nAA
def L5 := p2.give L4.1 nC
theorem lv_nums : L1.2.2 = 0 ∧ L2.2.2 = 0 ∧ L3.2.2 = 10 ∧ L5.2.2 = 0 ∧ L1.2.1 ≠ L2.2.1 ∧ L5.2.1 = L1.2.1 ∧ chkP p2 = 0 := by decide +kernel
def PGive (B : PB) (H : List Hd) (n : ByteArray) (H' : List Hd) (s : Bool) (hi lo er : Nat) : Prop := ∀ wx, Ground wx → PoolAt wx B p2 H → B.a ≠ B.h → Calls Tryd.prog 12 #[.pointer (some ⟨B.g, 0, none⟩), .string n] wx fun e w' => e = .returned (.tuple #[.agg #[.bool s, .int .u64 (hi : Int), .int .u64 (lo : Int)], .int .i64 (er : Int)]) ∧ PoolAt w' B p2 H' ∧ Kq B wx w'
theorem pgive_of {B : PB} {H H' : List Hd} {n : ByteArray} {s : Bool} {hi lo er : Nat} (hn : n.size ≤ 281474976710656) (h : p2.give H n = (H', (s, hi, lo), er)) : PGive B H n H' s hi lo er := fun wx hG hp hah => by
  have := pGive_any hG hp hah hn
  rw [h] at this
  exact this
set_option maxRecDepth 100000 in
set_option maxHeartbeats 8000000 in
theorem lives14 : GG 7 #[] (.bool true) := fun w hG => by
  obtain ⟨n1, n2, n3, n5, n12, n51, n0⟩ := lv_nums
  obtain ⟨⟨H1, ⟨s1, h1, l1⟩, e1⟩, hL1⟩ : ∃ R, L1 = R := ⟨_, rfl⟩
  obtain ⟨⟨H2, ⟨s2, h2, l2⟩, e2⟩, hL2⟩ : ∃ R, L2 = R := ⟨_, rfl⟩
  obtain ⟨⟨H3, ⟨s3, h3, l3⟩, e3⟩, hL3⟩ : ∃ R, L3 = R := ⟨_, rfl⟩
  obtain ⟨⟨H5, ⟨s5, h5, l5⟩, e5⟩, hL5⟩ : ∃ R, L5 = R := ⟨_, rfl⟩
  obtain ⟨⟨H4, e4⟩, hL4⟩ : ∃ R, L4 = R := ⟨_, rfl⟩
  rw [hL1] at n1 n12 n51
  rw [hL2] at n2 n12
  rw [hL3] at n3
  rw [hL5] at n5 n51
  simp only at n1 n2 n3 n5 n12 n51
  subst n1 n2 n3 n5
  have g1 : ∀ B, PGive B [] ⟨#[1, 97]⟩ H1 s1 h1 l1 0 := fun B => pgive_of (by decide) hL1
  have g2 : ∀ B, PGive B H1 ⟨#[1, 98]⟩ H2 s2 h2 l2 0 := fun B => pgive_of (by decide) (by have := hL2; unfold L2 at this; rw [hL1] at this; exact this)
  have g3 : ∀ B, PGive B H2 ⟨#[1, 99]⟩ H3 s3 h3 l3 10 := fun B => pgive_of (by decide) (by have := hL3; unfold L3 at this; rw [hL2] at this; exact this)
  have g5 : ∀ B, PGive B H4 ⟨#[1, 99]⟩ H5 s5 h5 l5 0 := fun B => pgive_of (by decide) (by have := hL5; unfold L5 at this; rw [hL4] at this; exact this)
  have g4 : ∀ B wx, PoolAt wx B p2 H3 → Calls Tryd.prog 14 #[.pointer (some ⟨B.g, 0, none⟩), .string ⟨#[1, 65]⟩] wx fun e w' => e = .returned (.int .i64 (e4 : Int)) ∧ PoolAt w' B p2 H4 ∧ Kq B wx w' := fun B wx hp => by
    have := pDrop_any (n := ⟨#[1, 65]⟩) hp (by decide)
    have e := hL4
    unfold L4 at e
    rw [hL3] at e
    rw [show dropE H3 ⟨#[1, 65]⟩ = (H4, e4) from e] at this
    exact this
  have hEq1 : ∀ wx : World, (Op.equalIn 10000 29 (.agg #[.bool s1, .int .u64 (h1 : Int), .int .u64 (l1 : Int)]) (.agg #[.bool s2, .int .u64 (h2 : Int), .int .u64 (l2 : Int)])).run Tryd.prog wx = .ok false wx := fun wx => (ad_equal s1 h1 l1 s2 h2 l2 wx).trans (by rw [decide_eq_false n12])
  have hEq2 : ∀ wx : World, (Op.equalIn 10000 29 (.agg #[.bool s5, .int .u64 (h5 : Int), .int .u64 (l5 : Int)]) (.agg #[.bool s1, .int .u64 (h1 : Int), .int .u64 (l1 : Int)])).run Tryd.prog wx = .ok true wx := fun wx => (ad_equal s5 h5 l5 s1 h1 l1 wx).trans (by rw [decide_eq_true n51])
  have HN : Hid (∀ wx, Ground wx → Calls Tryd.prog 8 #[pv p2 (.slice none 0 0)] wx (NewOut p2 wx)) := Lib.hid fun wx hg => vNew_ok (p := p2) (v := .slice none 0 0) hg (by unfold fitA p2; decide) (row_nil wx) n0
  have HT := Lib.hid two_any
  have G1 := Lib.hid g1
  have G2 := Lib.hid g2
  have G3 := Lib.hid g3
  have G4 := Lib.hid g4
  have G5 := Lib.hid g5
  have HGw := Lib.hid hG
  clear n12 n51 n0 hL1 hL2 hL3 hL4 hL5 g1 g2 g3 g4 g5 hG
  unfold pv p2 at HN HT
  simp only at HN HT
  go_enter Tryd.func7, Tryd.ntmps7
  go_wp2_with fail
  refine (HT.out _).mono ?_
  rintro e w1 ⟨rfl, hb1⟩
  have HB1 := Lib.hid hb1
  clear hb1
  go_wp2_with fail
  refine (HN.out _ (HGw.out.next HB1.out)).mono ?_
  rintro e w2 ⟨B, rfl, hp, hges, hah, hb⟩
  have HLv : Hid (Lv w w2 B p2 [] []) := Lib.hid (by
    have hz := HB1.out.size
    exact ⟨⟨HB1.out.trans (hb.mono hz), fun x hx => by cases hx⟩, hp, hah, ⟨by omega, by omega⟩, fun x hx => (by cases hx), (HGw.out.next HB1.out).next hb⟩)
  clear hp hges hah hb
  go_wp2_with fail
  refine (G1.out B _ HLv.out.gr HLv.out.at_ HLv.out.ah).mono ?_
  rintro e w3 ⟨rfl, hp, hk⟩
  replace HLv := Lib.hid ((HLv.out.act hk hp HGw.out).box 29 #[.bool s1, .int .u64 (h1 : Int), .int .u64 (l1 : Int)])
  clear hp hk
  go_wp2_with fail
  refine (G2.out B _ HLv.out.gr HLv.out.at_ HLv.out.ah).mono ?_
  rintro e w4 ⟨rfl, hp, hk⟩
  replace HLv := Lib.hid ((HLv.out.act hk hp HGw.out).box 29 #[.bool s2, .int .u64 (h2 : Int), .int .u64 (l2 : Int)])
  clear hp hk
  go_wp2_with fail
  refine (G3.out B _ HLv.out.gr HLv.out.at_ HLv.out.ah).mono ?_
  rintro e w5 ⟨rfl, hp, hk⟩
  replace HLv := Lib.hid ((HLv.out.act hk hp HGw.out).box 29 #[.bool s3, .int .u64 (h3 : Int), .int .u64 (l3 : Int)])
  clear hp hk
  go_wp2_with fail
  refine (G4.out B _ HLv.out.at_).mono ?_
  rintro e w6 ⟨rfl, hp, hk⟩
  replace HLv := Lib.hid (HLv.out.act hk hp HGw.out)
  clear hp hk
  go_wp2_with fail
  refine (G5.out B _ HLv.out.gr HLv.out.at_ HLv.out.ah).mono ?_
  rintro e w7 ⟨rfl, hp, hk⟩
  replace HLv := Lib.hid ((HLv.out.act hk hp HGw.out).box 29 #[.bool s5, .int .u64 (h5 : Int), .int .u64 (l5 : Int)])
  clear hp hk
  obtain ⟨W, hW⟩ : ∃ W, w7.alloc (.cells #[.bool s5, .int .u64 (h5 : Int), .int .u64 (l5 : Int)] 29) = W := ⟨_, rfl⟩
  rw [hW] at HLv
  have m1 : Lies W w3.heap.size 29 #[.bool s1, .int .u64 (h1 : Int), .int .u64 (l1 : Int)] := HLv.out.bx.at (by simp)
  have m2 : Lies W w4.heap.size 29 #[.bool s2, .int .u64 (h2 : Int), .int .u64 (l2 : Int)] := HLv.out.bx.at (by simp)
  have m3 : Lies W w7.heap.size 29 #[.bool s5, .int .u64 (h5 : Int), .int .u64 (l5 : Int)] := HLv.out.bx.at (by simp)
  obtain ⟨⟨x0, x1, x2⟩, _⟩ := ad_cells m1
  obtain ⟨⟨y0, y1, y2⟩, _⟩ := ad_cells m2
  obtain ⟨⟨z0, z1, z2⟩, _⟩ := ad_cells m3
  clear m1 m2 m3
  go_upto_region 9 with (fail)
  clear hW
  go_wp2
  go_ret
  exact ⟨rfl, HLv.out.bx.bel⟩
end Go.Proofs.YthlabpbplikjbaaDoor
