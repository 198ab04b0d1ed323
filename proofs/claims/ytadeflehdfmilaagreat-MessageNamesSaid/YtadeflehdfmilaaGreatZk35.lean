/-
  A record's cursor: the walks of its step, of begin. Condition: the octets are no longer than 2^40. A record's cursor: the walks of its short, long, end. Condition: the octets are no longer than 2^40. A question is read: the walk of record.ReadQuestion. Condition: the octets are no longer than 2^40. A record's cursor reads the data: the walks. Condition: the octets are no longer than 2^40. A record is read: the walk of record.Read. Condition: the octets are no longer than 2^40.
-/
import Derived.Test.YtadeflehdfmilaaGreatZk34
import Derived.Test.YtadeflehdfmilaaGreatQui
import Derived.Laws.ResultCell
namespace Go.Proofs.YtadeflehdfmilaaGreat
open Go.RowKit Go.Maps
set_option linter.unusedVariables false
set_option maxRecDepth 100000

/-- A cursor over S at k, with the error f; its blocks are from base on. -/
structure Cur (w : World) (base c g : Nat) (S : ByteArray) (f k : Nat) : Prop where
  cur : Lies w c 233 #[pp g, .string S, .int .i64 (f : Int)]
  rd : RD w g S k
  hk : k ≤ S.size
  bc : base ≤ c
  bg : base ≤ g
/-- Nothing but blocks c, g, t has turned, of what was there. -/
structure Fr3 (base c g t : Nat) (w w' : World) : Prop where
  below : Below base w w'
  rest : ∀ j, j < w.heap.size → j ≠ c → j ≠ g → j ≠ t → w'.heap[j]? = w.heap[j]?
theorem Fr3.refl (base c g t : Nat) (w : World) : Fr3 base c g t w w := ⟨Below.refl _ _, fun _ _ _ _ _ => rfl⟩
theorem Fr3.trans {base c g t : Nat} {w w' w'' : World} (h : Fr3 base c g t w w') (k : Fr3 base c g t w' w'') : Fr3 base c g t w w'' :=
  ⟨h.below.trans k.below, fun j hj h1 h2 h3 => (k.rest j (Nat.lt_of_lt_of_le hj h.below.size) h1 h2 h3).trans (h.rest j hj h1 h2 h3)⟩
theorem Fr3.of_below {base c g t : Nat} {w w' : World} (h : Below w.heap.size w w') (hb : base ≤ w.heap.size) : Fr3 base c g t w w' := ⟨h.mono hb, fun j hj _ _ _ => h.block j hj⟩
theorem Cur.next {w w' : World} {base c g : Nat} {S : ByteArray} {f k : Nat} (h : Cur w base c g S f k) (hb : Below w.heap.size w w') : Cur w' base c g S f k := ⟨h.cur.next hb, h.rd.next hb, h.hk, h.bc, h.bg⟩
theorem Cur.base_le {w : World} {base c g : Nat} {S : ByteArray} {f k : Nat} (h : Cur w base c g S f k) : base ≤ w.heap.size := Nat.le_trans h.bc (Nat.le_of_lt h.cur.lt)
theorem Cur.ne {w : World} {base c g : Nat} {S : ByteArray} {f k : Nat} (h : Cur w base c g S f k) : c ≠ g := h.cur.ne h.rd (by decide)

theorem step_skip {w : World} {base c g : Nat} {S : ByteArray} {f k : Nat} (fv : Value) (h : Cur w base c g S f k) (hf : f ≠ 0) : Calls Tryz.prog 159 #[pp c, fv] w fun e w' => e = .returned (pp c) ∧ w = w' := by
  have hc : w.cell? ⟨c, 2, none⟩ = some (.int .i64 (f : Int)) := h.cur.cell 2
  have hne : (((f : Nat) : Int) == 0) = false := by rw [beq_eq_false_iff_ne]; omega
  clear h
  go_enter Tryz.func159, Tryz.ntmps159
  go_wp2
  go_ret
  exact ⟨rfl, rfl⟩
theorem step_do {w : World} {base c g : Nat} {S : ByteArray} {k : Nat} (fid : FuncId) (caps : Array Value) (Q : Nat → World → Prop) (h : Cur w base c g S 0 k) (hgo : Goes fid)
    (hQ : Calls Tryz.prog fid caps w fun e w' => ∃ x : Nat, e = .returned (.int .i64 (x : Int)) ∧ Q x w' ∧ Lies w' c 233 #[pp g, .string S, .int .i64 0]) :
    Calls Tryz.prog 159 #[pp c, .func (.func fid) #[] caps] w fun e w' => e = .returned (pp c) ∧ ∃ (x : Nat) (w1 : World), Q x w1 ∧ Lies w1 c 233 #[pp g, .string S, .int .i64 0] ∧ w' = w1.setCell ⟨c, 2, none⟩ (.int .i64 (x : Int)) := by
  have hc : w.cell? ⟨c, 2, none⟩ = some (.int .i64 0) := h.cur.cell 2
  have HQ := Lib.hid hQ
  unfold Goes at hgo
  clear h hQ
  go_enter Tryz.func159, Tryz.ntmps159
  go_wp2_with (((with_reducible refine HQ.out.mono ?_); rintro e w1 ⟨x, rfl, hq, hl⟩; have HX := Lib.hid hq; have HLc := Lib.hid hl; have y0 := hl.cell 2; have y1 := hl.free 2; clear hq hl))
  go_ret
  exact ⟨rfl, x, w1, HX.out, HLc.out, rfl⟩

theorem cur_set {w w1 : World} {base c g t : Nat} {S : ByteArray} {k' : Nat} (x : Nat) (hl : Lies w1 c 233 #[pp g, .string S, .int .i64 0]) (hr : RD w1 g S k') (hk : k' ≤ S.size) (bc : base ≤ c) (bg : base ≤ g) (hf : Fr3 base c g t w w1) :
    Cur (w1.setCell ⟨c, 2, none⟩ (.int .i64 (x : Int))) base c g S x k' ∧ Fr3 base c g t w (w1.setCell ⟨c, 2, none⟩ (.int .i64 (x : Int))) := by
  have hne : c ≠ g := hl.ne hr (by decide)
  refine ⟨⟨hl.set 2 _, ?_, hk, bc, bg⟩, hf.below.setCell bc _, fun j hj h1 h2 h3 => (heap_setCell_other w1 ⟨c, 2, none⟩ j _ h1).trans (hf.rest j hj h1 h2 h3)⟩
  exact (heap_setCell_other w1 ⟨c, 2, none⟩ g _ (Ne.symm hne)).trans hr
theorem Fr3.reader {w w' : World} {base c g t : Nat} (hg : w.grownBy w' (some g)) (hb : base ≤ w.heap.size) (bg : base ≤ g) : Fr3 base c g t w w' :=
  ⟨(Below.refl base w).grown hg hb fun k hk => by injection hk with hk; omega, fun j hj _ h2 _ => hg.block j hj fun e => h2 (by injection e)⟩
theorem Fr3.drew {w w' : World} {base c g t : Nat} (h : Fr3 base c g t w.drew w') : Fr3 base c g t w w' := ⟨⟨h.below.os, h.below.tape, h.below.output, h.below.size, h.below.block⟩, h.rest⟩

/-! ### begin -/
set_option maxHeartbeats 1000000 in
theorem begin1_any {w : World} {base c g bc ba : Nat} {S : ByteArray} (a : Int) (h : Cur w base c g S 0 0) (hS : S.size ≤ 1099511627776) (hbc : w.cell? ⟨bc, 0, none⟩ = some (pp c)) (hba : w.cell? ⟨ba, 0, none⟩ = some (.int .i64 a)) (n1 : bc ≠ g) (n2 : ba ≠ g) :
    Calls Tryz.prog 160 #[pp bc, pp ba] w fun e w' => ∃ x : Nat, e = .returned (.int .i64 (x : Int)) ∧ (x = (seekR (bs S) 0 a).1 ∧ RD w' g S (seekR (bs S) 0 a).2 ∧ Fr3 base c g g w w') ∧ Lies w' c 233 #[pp g, .string S, .int .i64 0] := by
  have HS := Lib.hid (rSeek_any (w := w.drew) a (h.rd.drew) (by unfold maxLen; omega) (Nat.zero_le _))
  have HX : Hid (∀ w2, w.drew.grownBy w2 (some g) → w2.cell? ⟨bc, 0, none⟩ = some (pp c) ∧ w2.cell? ⟨c, 0, none⟩ = some (pp g) ∧ w2.cell? ⟨ba, 0, none⟩ = some (.int .i64 a)) := Lib.hid fun w2 hg =>
    ⟨hg.cell hbc (fun e => n1 (by injection e)), hg.cell (h.cur.cell 0) (fun e => h.ne (by injection e)), hg.cell hba (fun e => n2 (by injection e))⟩
  have HX0 : Hid (w.drew.cell? ⟨bc, 0, none⟩ = some (pp c) ∧ w.drew.cell? ⟨c, 0, none⟩ = some (pp g) ∧ w.drew.cell? ⟨ba, 0, none⟩ = some (.int .i64 a)) := Lib.hid ⟨hbc, h.cur.cell 0, hba⟩
  have HF : Hid (∀ w2, w.drew.grownBy w2 (some g) → Fr3 base c g g w w2 ∧ Lies w2 c 233 #[pp g, .string S, .int .i64 0]) := Lib.hid fun w2 hg => ⟨(Fr3.reader hg h.base_le h.bg).drew, Lies.grown (w := w.drew) h.cur.drew hg (fun e => h.ne (by injection e))⟩
  clear h hbc hba
  go_enter Tryz.func160, Tryz.ntmps160
  go_wp2
  go_region_held3 (fun w' => w'.cell? ⟨bc, 0, none⟩ = some (pp c) ∧ w'.cell? ⟨c, 0, none⟩ = some (pp g) ∧ w'.cell? ⟨ba, 0, none⟩ = some (.int .i64 a)) (first | with_reducible exact HX0.out | exact HX.out _ HG2.out | go_keep) (first | (go_at_call 161; (with_reducible refine HS.out.mono ?_); rintro e w2 ⟨rfl, hr2, hg2⟩; have HR2 := Lib.hid hr2; have HG2 := Lib.hid hg2; clear hr2 hg2) | fail)
  go_wp2
  go_ret
  exact ⟨_, rfl, ⟨rfl, HR2.out, (HF.out _ HG2.out).1⟩, (HF.out _ HG2.out).2⟩
theorem goes_begin1 : Goes 160 := fun args w => by kernel_rfl
def BegC (w : World) (S : ByteArray) (x : Nat × Nat) (e : Ending) (w' : World) : Prop := ∃ c g, e = .returned (pp c) ∧ Cur w' w.heap.size c g S x.1 x.2 ∧ Below w.heap.size w w'
set_option maxHeartbeats 1000000 in
theorem rcBegin_any (S : ByteArray) (a : Int) (w : World) (hS : S.size ≤ 1099511627776) : Calls Tryz.prog 129 #[.string S, .int .i64 a] w (BegC w S (seekR (bs S) 0 a)) := by
  have HN := Lib.hid fun wx => NewReader_any S wx
  have HSt := Lib.hid fun (wx : World) base c g bc ba (h : Cur wx base c g S 0 0) (hbc : wx.cell? ⟨bc, 0, none⟩ = some (pp c)) (hba : wx.cell? ⟨ba, 0, none⟩ = some (.int .i64 a)) (n1 : bc ≠ g) (n2 : ba ≠ g) =>
    step_do 160 #[pp bc, pp ba] _ h goes_begin1 (begin1_any a h hS hbc hba n1 n2)
  have HSl := Lib.hid (seekR_le (bs S) 0 a (Nat.zero_le _))
  rw [bs_length] at HSl
  obtain ⟨q, hq⟩ : ∃ q, seekR (bs S) 0 a = q := ⟨_, rfl⟩
  rw [hq] at HSt HSl ⊢
  clear hq
  go_enter Tryz.func129, Tryz.ntmps129
  go_wp2_with ((go_at_call 126; ((with_reducible refine (HN.out _).mono ?_); rintro e w1 ⟨rfl, hr, hb⟩; have HRD := Lib.hid hr; have HB1 := Lib.hid hb; clear hr hb)))
  have hsz : (w.alloc (Obj.cells #[.int .i64 a] 3)).heap.size = w.heap.size + 1 := by simp
  have hr := HRD.out
  have hb1 := HB1.out
  rw [hsz] at hr hb1
  have hlt : w.heap.size + 1 < w1.heap.size := hr.lt
  have hB0 : Below w.heap.size w w1 := ((Below.refl _ w).alloc (Nat.le_refl _) (Obj.cells #[.int .i64 a] 3)).trans (hb1.mono (Nat.le_succ _))
  have hba : w1.cell? ⟨w.heap.size, 0, none⟩ = some (.int .i64 a) := ((Lies.new w 3 #[.int .i64 a]).below hb1 (Nat.lt_succ_self _)).cell 0
  have hbB : ∀ (o p : Obj), Below w1.heap.size w1 ((w1.alloc o).alloc p) := fun o p => ((Below.refl _ _).alloc (Nat.le_refl _) o).alloc (by simp) p
  have hbox : ∀ o : Obj, Lies ((w1.alloc o).alloc (Obj.cells #[pp w1.heap.size] 196)) (w1.heap.size + 1) 196 #[pp w1.heap.size] := fun o => by
    have := Lies.new (w1.alloc o) 196 #[pp w1.heap.size]
    simpa using this
  refine (HSt.out _ w.heap.size w1.heap.size (w.heap.size + 1) (w1.heap.size + 1) w.heap.size ⟨(Lies.new w1 _ _).alloc _, (hr.next (hbB _ _)), Nat.zero_le _, by omega, by omega⟩ ((hbox _).cell 0) (((hbB _ _).cell (by show w.heap.size < _; omega)).trans hba) (by omega) (by omega)).mono ?_
  rintro e w3 ⟨rfl, x, w2, ⟨rfl, hr2, hf2⟩, hl2, rfl⟩
  obtain ⟨hc3, hf3⟩ := cur_set q.1 hl2 hr2 HSl.out (Nat.le_of_lt (by omega)) (Nat.le_succ _) hf2
  have HC3 := Lib.hid hc3
  have HB3 := Lib.hid (hB0.trans (((hbB _ _).mono hB0.size).trans hf3.below))
  clear hc3 hf3 hr2 hf2 hl2 hba hbB hbox hr hb1 hB0 hlt hsz HRD HB1 HN HSt
  go_wp2
  go_ret
  exact ⟨_, _, rfl, HC3.out, HB3.out⟩
theorem goes_name1 : Goes 162 := fun args w => by kernel_rfl
/-! ### The cursor's name -/
/-- What a part's reader leaves: the error, the place. -/
def stN (T : List UInt8) (f k : Nat) : Nat × Nat := if f ≠ 0 then (f, k) else ((rdNm T k).e, (rdNm T k).k)
def stU (T : List UInt8) (n : Int) (f k : Nat) : Nat × Nat := if f ≠ 0 then (f, k) else ((numR T k n).e, (numR T k n).k)
/-- A closure's answer: the error x, the place k', block t turned as P says. -/
def Clo (w : World) (base c g t : Nat) (S : ByteArray) (x' k' : Nat) (P : World → Prop) (e : Ending) (w' : World) : Prop :=
  ∃ x : Nat, e = .returned (.int .i64 (x : Int)) ∧ (x = x' ∧ RD w' g S k' ∧ Fr3 base c g t w w' ∧ P w') ∧ Lies w' c 233 #[pp g, .string S, .int .i64 0]
theorem rdNm_le (S : ByteArray) (k : Nat) (h : k ≤ S.size) : (rdNm (bs S) k).k ≤ S.size := by
  unfold rdNm
  split
  · exact h
  · split
    · exact h
    · rename_i _ h2
      have h3 : (seekR (bs S) k (readU (bs S) k k).e).1 = 0 := Decidable.not_not.1 h2
      unfold seekR at h3
      split at h3
      · cases h3
      · rename_i h4
        rw [bs_length] at h4
        show (readU (bs S) k k).e ≤ _
        omega
set_option maxHeartbeats 2000000 in
theorem name1_any {w : World} {base c g gt i bc bt k : Nat} {tt : TypeId} {cs : Array Value} {n0 S : ByteArray} (h : Cur w base c g S 0 k) (ht : Lies w gt tt cs) (hi : cs[i]? = some (.string n0)) (hS : S.size ≤ 1099511627776)
    (hbc : w.cell? ⟨bc, 0, none⟩ = some (pp c)) (hbt : w.cell? ⟨bt, 0, none⟩ = some (.pointer (some ⟨gt, i, none⟩))) (lc : bc < w.heap.size) (lt : bt < w.heap.size) (n1 : bc ≠ gt) (n2 : gt ≠ c) (n3 : gt ≠ g) (bg : base ≤ gt) :
    Calls Tryz.prog 162 #[pp bc, pp bt] w (Clo w base c g gt S (rdNm (bs S) k).e (rdNm (bs S) k).k fun w' => ∃ n', Lies w' gt tt (cs.setIfInBounds i (.string n')) ∧ ((rdNm (bs S) k).e = 0 → n' = mkb (rdNm (bs S) k).s)) := by
  have hcs : cs = cs.setIfInBounds i (.string n0) := by
    obtain ⟨hl, he⟩ := Array.getElem?_eq_some_iff.1 hi
    rw [← he, Array.setIfInBounds, dif_pos hl]
    exact (Array.set_getElem_self hl).symm
  have hit : ∀ wx, Lies wx gt tt cs → wx.cell? ⟨gt, i, none⟩ = some (.string n0) := fun wx hx => (hx.cell i).trans hi
  obtain ⟨Ix, f, i0, hf0, hCn, hstep⟩ := class_ofC w
  haveI : Nonempty Ix := ⟨i0⟩
  have hcur := fun n => h.next (hCn n)
  have x0 := fun n => ((hCn n).cell (p := ⟨bc, 0, none⟩) lc).trans hbc
  have x1 := fun n => (hcur n).cur.cell 0
  have x2 := fun n => (hcur n).cur.cell 1
  have V0 : Hid (∀ n, Calls Tryz.prog 164 #[.pointer (some ⟨g, 0, none⟩)] (f n) fun e w'' => e = .returned (.int .i64 k) ∧ ∃ m, w'' = f m) := Lib.hid fun n => (rAt_any (hcur n).rd).mono fun _ _ h => ⟨h.1, n, h.2.symm⟩
  have V1 := Lib.hid fun n => (uName_any S k (f n) (by unfold maxLen; omega)).mono (fun _ _ h => (⟨h.1, hstep n _ h.2⟩ : _ ∧ ∃ m, _ = f m))
  have HAll := Lib.hid fun n => And.intro (hcur n) (And.intro (ht.next (hCn n)) (And.intro (((hCn n).cell (p := ⟨bt, 0, none⟩) lt).trans hbt) (x0 n)))
  have HFr := Lib.hid fun n => Fr3.of_below (c := c) (g := g) (t := gt) (hCn n) h.base_le
  have HV : Hid (rdNm (bs S) k = if (readU (bs S) k k).f ≠ 0 then ⟨[], (readU (bs S) k k).f, k⟩ else if (seekR (bs S) k (readU (bs S) k k).e).1 ≠ 0 then ⟨(readU (bs S) k k).l, (seekR (bs S) k (readU (bs S) k k).e).1, k⟩ else ⟨(readU (bs S) k k).l, 0, (readU (bs S) k k).e⟩) := Lib.hid rfl
  obtain ⟨u, hu⟩ : ∃ u, readU (bs S) k k = u := ⟨_, rfl⟩
  obtain ⟨q, hq⟩ : ∃ q, rdNm (bs S) k = q := ⟨_, rfl⟩
  rw [hu] at V1 HV
  rw [hq] at HV ⊢
  have HCS := Lib.hid hcs
  have HSk := Lib.hid fun (wx : World) (hr : RD wx g S k) hk => rSeek_any (u.e : Nat) hr (by unfold maxLen; omega) hk
  have HKs := Lib.hid h.hk
  have HNe := Lib.hid h.ne
  have HBs := Lib.hid h.bg
  by_cases h0 : u.f = 0
  · have HV2 := Lib.hid (HV.out.trans (if_neg (fun hn => hn h0)))
    rw [h0] at V1
    clear h ht hbc hbt hu hq hCn hstep hcur HV h0 hcs
    go_enter Tryz.func162, Tryz.ntmps162
    go_upto_region 1 with (fail)
    refine wp_region_class f (by kernel_rfl) (lexB_of (by kernel_rfl) (by as_aux_lemma => kernel_rfl)) i0 hf0 ?_
    clear hf0
    repeat (go_big_quiet_step (first | (with_reducible exact V0.out _) | (with_reducible exact V1.out _)))
    refine wpQuiet_nil ?_
    intro _ hw'
    obtain ⟨nE, hw''⟩ := hw'
    subst hw''
    obtain ⟨hcu, hla, hbt, hbc⟩ := HAll.out nE
    have y0 := hit _ hla
    have y1 := hla.free i
    have y2 := hcu.cur.cell 0
    have HF := Lib.hid (HFr.out nE)
    have HLa := Lib.hid hla
    have HCu := Lib.hid hcu
    clear hla hcu x0 x1 x2
    go_wp2_with fail
    obtain ⟨W3, hW3⟩ : ∃ W3, W3 = (f nE).setCell ⟨gt, i, none⟩ (.string ⟨u.l.toArray⟩) := ⟨_, rfl⟩
    rw [← hW3]
    have hr3 : RD W3 g S k := by rw [hW3]; exact (heap_setCell_other (f nE) ⟨gt, i, none⟩ g _ (Ne.symm n3)).trans HCu.out.rd
    have hc3 : Lies W3 c 233 #[pp g, .string S, .int .i64 0] := by rw [hW3]; exact (heap_setCell_other (f nE) ⟨gt, i, none⟩ c _ (Ne.symm n2)).trans HCu.out.cur
    have ht3 : Lies W3 gt tt (cs.setIfInBounds i (.string ⟨u.l.toArray⟩)) := by rw [hW3]; exact HLa.out.set i _
    have hf3 : Fr3 base c g gt w W3 := by
      rw [hW3]
      exact ⟨HF.out.below.setCell bg _, fun j hj h1 h2 h3 => (heap_setCell_other (f nE) ⟨gt, i, none⟩ j _ h3).trans (HF.out.rest j hj h1 h2 h3)⟩
    have hb3 : base ≤ W3.heap.size := Nat.le_trans bg (Nat.le_of_lt ht3.lt)
    refine (HSk.out W3 hr3 HKs.out).mono ?_
    rintro e w4 ⟨rfl, hr4, hg4⟩
    have HR4 := Lib.hid hr4
    have HC4 := Lib.hid (hc3.grown hg4 (fun e => HNe.out (by injection e)))
    have HT4 := Lib.hid (ht3.grown hg4 (fun e => n3 (by injection e)))
    have HF4 := Lib.hid (hf3.trans (Fr3.reader hg4 hb3 HBs.out))
    clear hr3 hc3 ht3 hf3 hb3 hr4 hg4 hW3
    go_wp2
    go_ret
    rw [HV2.out]
    by_cases hz : (seekR (bs S) k u.e).1 = 0
    · have hz2 : (seekR (bs S) k u.e).2 = u.e := by
        unfold seekR at hz ⊢
        split at hz
        · cases hz
        · rename_i hh
          rw [if_neg hh]
          simp
      have hr := HR4.out
      rw [hz2] at hr
      rw [if_neg (fun hn => hn hz)]
      exact ⟨_, rfl, ⟨hz, hr, HF4.out, _, HT4.out, fun _ => rfl⟩, HC4.out⟩
    · have hz2 : (seekR (bs S) k u.e).2 = k := by
        unfold seekR at hz ⊢
        split at hz
        · rename_i hh
          rw [if_pos hh]
        · exact absurd rfl hz
      have hr := HR4.out
      rw [hz2] at hr
      rw [if_pos hz]
      exact ⟨_, rfl, ⟨rfl, hr, HF4.out, _, HT4.out, fun _ => rfl⟩, HC4.out⟩
  · have hne : (((u.f : Nat) : Int) != 0) = true := by rw [bne_iff_ne]; omega
    have HV2 := Lib.hid (HV.out.trans (if_pos h0))
    have H0 := Lib.hid h0
    clear h ht hi hbc hbt hu hq hcs hCn hstep hcur HV h0
    go_enter Tryz.func162, Tryz.ntmps162
    go_upto_region 1 with (fail)
    refine wp_region_class f (by kernel_rfl) (lexB_of (by kernel_rfl) (by as_aux_lemma => kernel_rfl)) i0 hf0 ?_
    clear hf0
    repeat (go_big_quiet_step (first | (with_reducible exact V0.out _) | (with_reducible exact V1.out _)))
    refine wpQuiet_nil ?_
    intro _ hw'
    obtain ⟨nE, hw''⟩ := hw'
    subst hw''
    have hA := HAll.out nE
    have hF := HFr.out nE
    go_wp2
    go_ret
    rw [HV2.out]
    exact ⟨_, rfl, ⟨rfl, hA.1.rd, hF, n0, by rw [← HCS.out]; exact hA.2.1, fun hz => absurd hz H0.out⟩, hA.1.cur⟩
/-- A method's answer. -/
def PartR (w : World) (base c g t : Nat) (S : ByteArray) (st : Nat × Nat) (P : World → Prop) (e : Ending) (w' : World) : Prop := e = .returned (pp c) ∧ Cur w' base c g S st.1 st.2 ∧ Fr3 base c g t w w' ∧ P w'
theorem step_part {w W : World} {base c g t f k : Nat} {S : ByteArray} {fid : FuncId} {caps : Array Value} {st : Nat × Nat} {P : World → Prop} (hB : Below w.heap.size w W) (h : Cur W base c g S f k) (hb : base ≤ w.heap.size) (hgo : Goes fid) (hst : st.2 ≤ S.size)
    (h0 : f = 0 → Calls Tryz.prog fid caps W (Clo W base c g t S st.1 st.2 P)) (h1 : f ≠ 0 → st = (f, k) ∧ P W) (hP : ∀ wx u, P wx → P (wx.setCell ⟨c, 2, none⟩ u)) :
    Calls Tryz.prog 159 #[pp c, .func (.func fid) #[] caps] W (PartR w base c g t S st P) := by
  by_cases hf : f = 0
  · subst hf
    refine (step_do fid caps _ h hgo (h0 rfl)).mono ?_
    rintro e w' ⟨rfl, x, w1, ⟨rfl, hr, hfr, hp⟩, hl, rfl⟩
    obtain ⟨hc, hf3⟩ := cur_set st.1 hl hr hst h.bc h.bg hfr
    exact ⟨rfl, hc, (Fr3.of_below hB hb).trans hf3, hP _ _ hp⟩
  · refine (step_skip _ h hf).mono ?_
    rintro e w' ⟨rfl, rfl⟩
    obtain ⟨e1, hp⟩ := h1 hf
    rw [e1]
    exact ⟨rfl, h, Fr3.of_below hB hb, hp⟩
theorem two_boxes (w : World) (t u : TypeId) (x y : Value) : Below w.heap.size w ((w.alloc (.cells #[x] t)).alloc (.cells #[y] u)) ∧ ((w.alloc (.cells #[x] t)).alloc (.cells #[y] u)).cell? ⟨w.heap.size, 0, none⟩ = some x ∧ ((w.alloc (.cells #[x] t)).alloc (.cells #[y] u)).cell? ⟨w.heap.size + 1, 0, none⟩ = some y ∧ ((w.alloc (.cells #[x] t)).alloc (.cells #[y] u)).heap.size = w.heap.size + 1 + 1 := by
  refine ⟨((Below.refl _ w).alloc (Nat.le_refl _) _).alloc (by simp) _, ((Lies.new w t #[x]).alloc _).cell 0, ?_, by simp⟩
  have h := Lies.new (w.alloc (.cells #[x] t)) u #[y]
  rw [show (w.alloc (.cells #[x] t)).heap.size = w.heap.size + 1 from by simp] at h
  exact h.cell 0
theorem stN_le (S : ByteArray) (f k : Nat) (h : k ≤ S.size) : (stN (bs S) f k).2 ≤ S.size := by
  unfold stN
  split
  · exact h
  · exact rdNm_le S k h
theorem stN_yes {T : List UInt8} {f k : Nat} (h : f ≠ 0) : stN T f k = (f, k) := if_pos h
theorem stN_no {T : List UInt8} {k : Nat} : stN T 0 k = ((rdNm T k).e, (rdNm T k).k) := if_neg (fun h => h rfl)
def NmP (gt : Nat) (tt : TypeId) (cs : Array Value) (i : Nat) (T : List UInt8) (f k : Nat) (w' : World) : Prop := ∃ n' : ByteArray, Lies w' gt tt (cs.setIfInBounds i (.string n')) ∧ ((stN T f k).1 = 0 → n' = mkb (rdNm T k).s)
theorem rcName_any {w : World} {base c g gt i f k : Nat} {tt : TypeId} {cs : Array Value} {n0 S : ByteArray} (h : Cur w base c g S f k) (ht : Lies w gt tt cs) (hi : cs[i]? = some (.string n0)) (hS : S.size ≤ 1099511627776) (n2 : gt ≠ c) (n3 : gt ≠ g) (bg : base ≤ gt) :
    Calls Tryz.prog 130 #[pp c, .pointer (some ⟨gt, i, none⟩)] w (PartR w base c g gt S (stN (bs S) f k) (NmP gt tt cs i (bs S) f k)) := by
  have hcs : cs = cs.setIfInBounds i (.string n0) := by
    obtain ⟨hl, he⟩ := Array.getElem?_eq_some_iff.1 hi
    rw [← he, Array.setIfInBounds, dif_pos hl]
    exact (Array.set_getElem_self hl).symm
  obtain ⟨hB, b0, b1, hsz⟩ := two_boxes w 196 199 (pp c) (.pointer (some ⟨gt, i, none⟩))
  have HB0 := b0
  have HS := Lib.hid (step_part (t := gt) (fid := 162) (caps := #[pp w.heap.size, pp (w.heap.size + 1)]) (st := stN (bs S) f k) (P := NmP gt tt cs i (bs S) f k) hB (h.next hB) h.base_le goes_name1 (stN_le S f k h.hk)
    (fun h0 => by
      subst h0
      have hlt := ht.lt
      refine (name1_any (h.next hB) (ht.next hB) hi hS b0 b1 (by omega) (by omega) (by omega) n2 n3 bg).mono ?_
      rintro e w' ⟨x, rfl, ⟨h1, h2, h3, n', h4, h5⟩, h6⟩
      rw [stN_no]
      exact ⟨x, rfl, ⟨h1, h2, h3, n', h4, by rw [stN_no]; exact h5⟩, h6⟩)
    (fun hf => ⟨stN_yes hf, n0, by rw [← hcs]; exact ht.next hB, by rw [stN_yes hf]; exact fun hz => absurd hz hf⟩)
    (fun wx u hp => by
      obtain ⟨n', h4, h5⟩ := hp
      exact ⟨n', (heap_setCell_other wx ⟨c, 2, none⟩ gt u n2).trans h4, h5⟩))
  clear hcs hsz h ht hi b1 hB b0
  go_enter Tryz.func130, Tryz.ntmps130
  go_wp2_with (((with_reducible refine HS.out.mono ?_); rintro e w' ⟨rfl, h1⟩; have H1 := Lib.hid h1; clear h1))
  go_ret
  exact ⟨rfl, H1.out⟩
end Go.Proofs.YtadeflehdfmilaaGreat
namespace Go.Proofs.YtadeflehdfmilaaGreat
open Go.RowKit Go.Maps
set_option linter.unusedVariables false
set_option maxRecDepth 100000

theorem goes_short1 : Goes 165 := fun args w => by kernel_rfl
theorem goes_long1 : Goes 166 := fun args w => by kernel_rfl
theorem stU_le (S : ByteArray) (n : Int) (f k : Nat) (h : k ≤ S.size) : (stU (bs S) n f k).2 ≤ S.size := by
  unfold stU
  split
  · exact h
  · have := numR_le (bs S) k n (by rw [bs_length]; exact h)
    rwa [bs_length] at this
theorem stU_yes {T : List UInt8} {n : Int} {f k : Nat} (h : f ≠ 0) : stU T n f k = (f, k) := if_pos h
theorem stU_no {T : List UInt8} {n : Int} {k : Nat} : stU T n 0 k = ((numR T k n).e, (numR T k n).k) := if_neg (fun h => h rfl)
theorem set_self {cs : Array Value} {i : Nat} {v : Value} (hi : cs[i]? = some v) : cs = cs.setIfInBounds i v := by
  obtain ⟨hl, he⟩ := Array.getElem?_eq_some_iff.1 hi
  rw [← he, Array.setIfInBounds, dif_pos hl]
  exact (Array.set_getElem_self hl).symm
theorem wrapU {n : Nat} (h : n < 4294967296) : IntKind.i64.wrap ((n : Nat) : Int) = (n : Int) := IntWalk.i64_in _ (by omega)
set_option maxHeartbeats 1000000 in
theorem short1_any {w : World} {base c g gt i bc bt k : Nat} {tt : TypeId} {cs : Array Value} {z : Int} {S : ByteArray} (h : Cur w base c g S 0 k) (ht : Lies w gt tt cs) (hi : cs[i]? = some (.int .i64 z)) (hS : S.size ≤ 1099511627776)
    (hbc : w.cell? ⟨bc, 0, none⟩ = some (pp c)) (hbt : w.cell? ⟨bt, 0, none⟩ = some (.pointer (some ⟨gt, i, none⟩))) (lt : bt < w.heap.size) (n1 : bt ≠ g) (n2 : gt ≠ c) (n3 : gt ≠ g) (bg : base ≤ gt) :
    Calls Tryz.prog 165 #[pp bc, pp bt] w (Clo w base c g gt S (numR (bs S) k 2).e (numR (bs S) k 2).k fun w' => Lies w' gt tt (cs.setIfInBounds i (.int .i64 (num (numR (bs S) k 2).s : Nat)))) := by
  have x1 := h.cur.cell 0
  have HN := Lib.hid (rNumber_any 2 h.rd (by unfold maxLen; omega) h.hk)
  have HX : Hid (∀ w2, w.grownBy w2 (some g) → w2.cell? ⟨bt, 0, none⟩ = some (.pointer (some ⟨gt, i, none⟩)) ∧ Lies w2 gt tt cs ∧ Lies w2 c 233 #[pp g, .string S, .int .i64 0] ∧ Fr3 base c g gt w w2) := Lib.hid fun w2 hg =>
    ⟨hg.cell hbt (fun e => n1 (by injection e)), ht.grown hg (fun e => n3 (by injection e)), h.cur.grown hg (fun e => h.ne (by injection e)), Fr3.reader hg h.base_le h.bg⟩
  have hlt := numR_lt (bs S) k 2
  have hit : ∀ wx, Lies wx gt tt cs → wx.cell? ⟨gt, i, none⟩ = some (.int .i64 z) := fun wx hx => (hx.cell i).trans hi
  obtain ⟨q, hq⟩ : ∃ q, numR (bs S) k 2 = q := ⟨_, rfl⟩
  rw [hq] at HN hlt ⊢
  obtain ⟨nv, hnv⟩ : ∃ nv, num q.s = nv := ⟨_, rfl⟩
  rw [hnv] at HN hlt ⊢
  have hw := wrapU hlt
  have HNe := Lib.hid h.ne
  clear h hbt hi hq hnv hlt ht
  go_enter Tryz.func165, Tryz.ntmps165
  go_wp2_with fail
  refine HN.out.mono ?_
  rintro e w2 ⟨rfl, hr2, hg2⟩
  obtain ⟨y0, hl2, hc2, hf2⟩ := HX.out _ hg2
  have HR2 := Lib.hid hr2
  have HL2 := Lib.hid hl2
  have HC2 := Lib.hid hc2
  have HF2 := Lib.hid hf2
  have y1 := hit _ hl2
  have y2 := hl2.free i
  clear hr2 hg2 hl2 hc2 hf2
  go_wp2
  go_ret
  have e1 : ∀ j, j ≠ gt → (w2.setCell ⟨gt, i, none⟩ (.int .i64 (nv : Int))).heap[j]? = w2.heap[j]? := fun j hj => heap_setCell_other w2 ⟨gt, i, none⟩ j _ hj
  exact ⟨_, rfl, ⟨rfl, (e1 g (Ne.symm n3)).trans HR2.out, ⟨HF2.out.below.setCell bg _, fun j hj h1 h2 h3 => (e1 j h3).trans (HF2.out.rest j hj h1 h2 h3)⟩, HL2.out.set i _⟩, (e1 c (Ne.symm n2)).trans HC2.out⟩
set_option maxHeartbeats 1000000 in
theorem long1_any {w : World} {base c g gt i bc bt k : Nat} {tt : TypeId} {cs : Array Value} {z : Int} {S : ByteArray} (h : Cur w base c g S 0 k) (ht : Lies w gt tt cs) (hi : cs[i]? = some (.int .u32 z)) (hS : S.size ≤ 1099511627776)
    (hbc : w.cell? ⟨bc, 0, none⟩ = some (pp c)) (hbt : w.cell? ⟨bt, 0, none⟩ = some (.pointer (some ⟨gt, i, none⟩))) (n0 : bc ≠ g) (n1 : bt ≠ g) (n2 : gt ≠ c) (n3 : gt ≠ g) (n4 : bc ≠ gt) (n5 : bt ≠ gt) (bg : base ≤ gt) :
    Calls Tryz.prog 166 #[pp bc, pp bt] w (Clo w base c g gt S (numR (bs S) k 4).e (numR (bs S) k 4).k fun w' => Lies w' gt tt (cs.setIfInBounds i (.int .u32 (num (numR (bs S) k 4).s : Nat)))) := by
  have HN := Lib.hid (rNumber_any (w := w.drew) 4 h.rd.drew (by unfold maxLen; omega) h.hk)
  have HX0 : Hid (w.drew.cell? ⟨bt, 0, none⟩ = some (.pointer (some ⟨gt, i, none⟩)) ∧ w.drew.cell? ⟨bc, 0, none⟩ = some (pp c) ∧ w.drew.cell? ⟨c, 0, none⟩ = some (pp g)) := Lib.hid ⟨hbt, hbc, h.cur.cell 0⟩
  have HX : Hid (∀ w2, w.drew.grownBy w2 (some g) → w2.cell? ⟨bt, 0, none⟩ = some (.pointer (some ⟨gt, i, none⟩)) ∧ w2.cell? ⟨bc, 0, none⟩ = some (pp c) ∧ w2.cell? ⟨c, 0, none⟩ = some (pp g)) := Lib.hid fun w2 hg =>
    ⟨hg.cell hbt (fun e => n1 (by injection e)), hg.cell hbc (fun e => n0 (by injection e)), hg.cell (h.cur.cell 0) (fun e => h.ne (by injection e))⟩
  have HY : Hid (∀ w2, w.drew.grownBy w2 (some g) → Lies w2 gt tt cs ∧ Lies w2 c 233 #[pp g, .string S, .int .i64 0] ∧ Fr3 base c g gt w w2) := Lib.hid fun w2 hg =>
    ⟨Lies.grown (w := w.drew) ht.drew hg (fun e => n3 (by injection e)), Lies.grown (w := w.drew) h.cur.drew hg (fun e => h.ne (by injection e)), (Fr3.reader hg h.base_le h.bg).drew⟩
  have HZ : Hid (∀ w2 u, w.drew.grownBy w2 (some g) → (w2.setCell ⟨gt, i, none⟩ u).cell? ⟨bt, 0, none⟩ = some (.pointer (some ⟨gt, i, none⟩)) ∧ (w2.setCell ⟨gt, i, none⟩ u).cell? ⟨bc, 0, none⟩ = some (pp c) ∧ (w2.setCell ⟨gt, i, none⟩ u).cell? ⟨c, 0, none⟩ = some (pp g)) := Lib.hid fun w2 u hg => by
    obtain ⟨a1, a2, a3⟩ := HX.out w2 hg
    exact ⟨(World.cell?_of_block (w := w2) (a := ⟨bt, 0, none⟩) (heap_setCell_other w2 ⟨gt, i, none⟩ bt u n5)).trans a1, (World.cell?_of_block (w := w2) (a := ⟨bc, 0, none⟩) (heap_setCell_other w2 ⟨gt, i, none⟩ bc u n4)).trans a2, (World.cell?_of_block (w := w2) (a := ⟨c, 0, none⟩) (heap_setCell_other w2 ⟨gt, i, none⟩ c u (Ne.symm n2))).trans a3⟩
  have hlt := numR_lt (bs S) k 4
  have hit : ∀ wx, Lies wx gt tt cs → wx.cell? ⟨gt, i, none⟩ = some (.int .u32 z) := fun wx hx => (hx.cell i).trans hi
  obtain ⟨q, hq⟩ : ∃ q, numR (bs S) k 4 = q := ⟨_, rfl⟩
  rw [hq] at HN hlt ⊢
  obtain ⟨nv, hnv⟩ : ∃ nv, num q.s = nv := ⟨_, rfl⟩
  rw [hnv] at HN hlt ⊢
  have HNe := Lib.hid h.ne
  clear h hbt hbc hi hq hnv hlt ht
  go_enter Tryz.func166, Tryz.ntmps166
  go_wp2
  go_region_held3 (fun w' => w'.cell? ⟨bt, 0, none⟩ = some (.pointer (some ⟨gt, i, none⟩)) ∧ w'.cell? ⟨bc, 0, none⟩ = some (pp c) ∧ w'.cell? ⟨c, 0, none⟩ = some (pp g)) (first | with_reducible exact HX0.out | exact HX.out _ HG2.out | exact HZ.out _ _ HG2.out | go_keep) (first | (go_at_call 127; (with_reducible refine HN.out.mono ?_); rintro e w2 ⟨rfl, hr2, hg2⟩; obtain ⟨hl2, hc2, hf2⟩ := HY.out _ hg2; have HR2 := Lib.hid hr2; have HG2 := Lib.hid hg2; have HL2 := Lib.hid hl2; have HC2 := Lib.hid hc2; have HF2 := Lib.hid hf2; have y1 := hit _ hl2; have y2 := hl2.free i; clear hr2 hg2 hl2 hc2 hf2) | fail)
  go_wp2
  go_ret
  have e1 : ∀ j, j ≠ gt → (w2.setCell ⟨gt, i, none⟩ (.int .u32 (nv : Int))).heap[j]? = w2.heap[j]? := fun j hj => heap_setCell_other w2 ⟨gt, i, none⟩ j _ hj
  exact ⟨_, rfl, ⟨rfl, (e1 g (Ne.symm n3)).trans HR2.out, ⟨HF2.out.below.setCell bg _, fun j hj h1 h2 h3 => (e1 j h3).trans (HF2.out.rest j hj h1 h2 h3)⟩, HL2.out.set i _⟩, (e1 c (Ne.symm n2)).trans HC2.out⟩
def ShortP (gt : Nat) (tt : TypeId) (cs : Array Value) (i : Nat) (T : List UInt8) (f k : Nat) (w' : World) : Prop := ∃ v : Int, Lies w' gt tt (cs.setIfInBounds i (.int .i64 v)) ∧ (f = 0 → v = num (numR T k 2).s)
theorem rcShort_any {w : World} {base c g gt i f k : Nat} {tt : TypeId} {cs : Array Value} {z : Int} {S : ByteArray} (h : Cur w base c g S f k) (ht : Lies w gt tt cs) (hi : cs[i]? = some (.int .i64 z)) (hS : S.size ≤ 1099511627776) (n2 : gt ≠ c) (n3 : gt ≠ g) (bg : base ≤ gt) :
    Calls Tryz.prog 131 #[pp c, .pointer (some ⟨gt, i, none⟩)] w (PartR w base c g gt S (stU (bs S) 2 f k) (ShortP gt tt cs i (bs S) f k)) := by
  have hcs := set_self hi
  obtain ⟨hB, b0, b1, hsz⟩ := two_boxes w 196 201 (pp c) (.pointer (some ⟨gt, i, none⟩))
  have hlg := h.rd.lt
  have hlt := ht.lt
  have HB0 := b0
  have HS := Lib.hid (step_part (t := gt) (fid := 165) (caps := #[pp w.heap.size, pp (w.heap.size + 1)]) (st := stU (bs S) 2 f k) (P := ShortP gt tt cs i (bs S) f k) hB (h.next hB) h.base_le goes_short1 (stU_le S 2 f k h.hk)
    (fun h0 => by
      subst h0
      refine (short1_any (h.next hB) (ht.next hB) hi hS b0 b1 (by omega) (by omega) n2 n3  bg).mono ?_
      rintro e w' ⟨x, rfl, ⟨h1, h2, h3, h4⟩, h6⟩
      rw [stU_no]
      exact ⟨x, rfl, ⟨h1, h2, h3, _, h4, fun _ => rfl⟩, h6⟩)
    (fun hf => ⟨stU_yes hf, z, by rw [← hcs]; exact ht.next hB, fun hz => absurd hz hf⟩)
    (fun wx u hp => by
      obtain ⟨n', h4, h5⟩ := hp
      exact ⟨n', (heap_setCell_other wx ⟨c, 2, none⟩ gt u n2).trans h4, h5⟩))
  clear hcs hsz h ht hi b1 hB b0 hlg hlt
  go_enter Tryz.func131, Tryz.ntmps131
  go_wp2_with (((with_reducible refine HS.out.mono ?_); rintro e w' ⟨rfl, h1⟩; have H1 := Lib.hid h1; clear h1))
  go_ret
  exact ⟨rfl, H1.out⟩
def LongP (gt : Nat) (tt : TypeId) (cs : Array Value) (i : Nat) (T : List UInt8) (f k : Nat) (w' : World) : Prop := ∃ v : Nat, Lies w' gt tt (cs.setIfInBounds i (.int .u32 v)) ∧ (f = 0 → v = num (numR T k 4).s)
theorem rcLong_any {w : World} {base c g gt i f k : Nat} {tt : TypeId} {cs : Array Value} {z : Nat} {S : ByteArray} (h : Cur w base c g S f k) (ht : Lies w gt tt cs) (hi : cs[i]? = some (.int .u32 z)) (hS : S.size ≤ 1099511627776) (n2 : gt ≠ c) (n3 : gt ≠ g) (bg : base ≤ gt) :
    Calls Tryz.prog 133 #[pp c, .pointer (some ⟨gt, i, none⟩)] w (PartR w base c g gt S (stU (bs S) 4 f k) (LongP gt tt cs i (bs S) f k)) := by
  have hcs := set_self hi
  obtain ⟨hB, b0, b1, hsz⟩ := two_boxes w 196 204 (pp c) (.pointer (some ⟨gt, i, none⟩))
  have hlg := h.rd.lt
  have hlt := ht.lt
  have HB0 := b0
  have HS := Lib.hid (step_part (t := gt) (fid := 166) (caps := #[pp w.heap.size, pp (w.heap.size + 1)]) (st := stU (bs S) 4 f k) (P := LongP gt tt cs i (bs S) f k) hB (h.next hB) h.base_le goes_long1 (stU_le S 4 f k h.hk)
    (fun h0 => by
      subst h0
      refine (long1_any (h.next hB) (ht.next hB) hi hS b0 b1 (by omega) (by omega) n2 n3 (by omega) (by omega) bg).mono ?_
      rintro e w' ⟨x, rfl, ⟨h1, h2, h3, h4⟩, h6⟩
      rw [stU_no]
      exact ⟨x, rfl, ⟨h1, h2, h3, _, h4, fun _ => rfl⟩, h6⟩)
    (fun hf => ⟨stU_yes hf, z, by rw [← hcs]; exact ht.next hB, fun hz => absurd hz hf⟩)
    (fun wx u hp => by
      obtain ⟨n', h4, h5⟩ := hp
      exact ⟨n', (heap_setCell_other wx ⟨c, 2, none⟩ gt u n2).trans h4, h5⟩))
  clear hcs hsz h ht hi b1 hB b0 hlg hlt
  go_enter Tryz.func133, Tryz.ntmps133
  go_wp2_with (((with_reducible refine HS.out.mono ?_); rintro e w' ⟨rfl, h1⟩; have H1 := Lib.hid h1; clear h1))
  go_ret
  exact ⟨rfl, H1.out⟩
/-- What end answers. -/
def stE (f k : Nat) : Nat × Nat := if f ≠ 0 then (0, f) else (k, 0)
set_option maxHeartbeats 1000000 in
theorem rcEnd_any {w : World} {base c g f k : Nat} {S : ByteArray} (h : Cur w base c g S f k) : Calls Tryz.prog 132 #[pp c] w (Told w (.tuple #[.int .i64 ((stE f k).1 : Nat), .int .i64 ((stE f k).2 : Nat)])) := by
  have hc : w.cell? ⟨c, 2, none⟩ = some (.int .i64 (f : Int)) := h.cur.cell 2
  have hg : w.cell? ⟨c, 0, none⟩ = some (pp g) := h.cur.cell 0
  have HA := Lib.hid (rAt_any h.rd)
  clear h
  by_cases h0 : f = 0
  · subst h0
    go_enter Tryz.func132, Tryz.ntmps132
    go_wp2_with (((with_reducible refine HA.out.mono ?_); rintro e w' ⟨rfl, rfl⟩))
    go_ret2
    exact ⟨rfl, Below.refl _ _⟩
  · have hne : (((f : Nat) : Int) != 0) = true := by rw [bne_iff_ne]; omega
    have HV : Hid (stE f k = (0, f)) := Lib.hid (if_pos h0)
    go_enter Tryz.func132, Tryz.ntmps132
    go_wp2
    go_region
    go_wp2
    go_ret2
    rw [HV.out]
    exact ⟨rfl, below_dr w⟩
end Go.Proofs.YtadeflehdfmilaaGreat
namespace Go.Proofs.YtadeflehdfmilaaGreat
open Go.RowKit Go.Maps
set_option linter.unusedVariables false
set_option maxRecDepth 100000

theorem results_cell_tmp_tmp {fn : Func} {p u x : Tmp} {ty : TypeId} (h : fn.results = #[.cell p ty, .tmp u, .tmp x]) (tmps : Array Value) (P : Program) (w : World) :
    (results fn tmps).run P w =
      ((asAddr (tmps.getD p undef)).run P w).andThen fun a w₁ => ((loadVar ty a).run P w₁).andThen fun v w₂ => .ok (.tuple #[v, tmps.getD u undef, tmps.getD x undef]) w₂ := by
  simp only [results, h]
  simp [Sem.run_bind, Result.andThen]
theorem ret_q3 {fn : Func} {p u x : Tmp} (h : fn.results = #[.cell p 84, .tmp u, .tmp x]) (tmps : Array Value) (w : World) (g : Nat) (q : MQ) (hp : tmps.getD p undef = .pointer (some ⟨g, 0, none⟩))
    (hg : Lies w g 84 (cellsQ q)) : (results fn tmps).run Tryz.prog w = .ok (.tuple #[questV q, tmps.getD u undef, tmps.getD x undef]) w := by
  rw [results_cell_tmp_tmp h, hp]
  simp only [asAddr, Sem.run_pure, Result.andThen_ok]
  rw [run_loadVar_row w g _ _ _ _ _ hg Tryz.underlying84 rfl infoQ]
  rfl
theorem Cur.lower {w : World} {base b c g : Nat} {S : ByteArray} {f k : Nat} (h : Cur w base c g S f k) (hb : b ≤ base) : Cur w b c g S f k := ⟨h.cur, h.rd, h.hk, Nat.le_trans hb h.bc, Nat.le_trans hb h.bg⟩
/-- What comes of the chain: by the errors, one behind the other. -/
theorem chainQ {T : List UInt8} {a : Int} {s0 s1 s2 s3 : Nat × Nat} (h0 : seekR T 0 a = s0) (h1 : stN T s0.1 s0.2 = s1) (h2 : stU T 2 s1.1 s1.2 = s2) (h3 : stU T 2 s2.1 s2.2 = s3) :
    (rdQ T a).e = s3.1 ∧ (s3.1 ≠ 0 → (rdQ T a).k = 0 ∧ (rdQ T a).q = mq0) ∧ (s3.1 = 0 → s0.1 = 0 ∧ s1.1 = 0 ∧ s2.1 = 0 ∧ (rdQ T a).k = s3.2 ∧ (rdQ T a).q = ⟨mkb (rdNm T s0.2).s, (num (numR T s1.2 2).s : Nat), (num (numR T s2.2 2).s : Nat)⟩) := by
  have hd : rdQ T a = if (seekR T 0 a).1 ≠ 0 then ⟨(seekR T 0 a).1, 0, mq0⟩
    else if (rdNm T (seekR T 0 a).2).e ≠ 0 then ⟨(rdNm T (seekR T 0 a).2).e, 0, mq0⟩
    else if (numR T (rdNm T (seekR T 0 a).2).k 2).e ≠ 0 then ⟨(numR T (rdNm T (seekR T 0 a).2).k 2).e, 0, mq0⟩
    else if (numR T (numR T (rdNm T (seekR T 0 a).2).k 2).k 2).e ≠ 0 then ⟨(numR T (numR T (rdNm T (seekR T 0 a).2).k 2).k 2).e, 0, mq0⟩
    else ⟨0, (numR T (numR T (rdNm T (seekR T 0 a).2).k 2).k 2).k, ⟨mkb (rdNm T (seekR T 0 a).2).s, (num (numR T (rdNm T (seekR T 0 a).2).k 2).s : Nat), (num (numR T (numR T (rdNm T (seekR T 0 a).2).k 2).k 2).s : Nat)⟩⟩ := rfl
  rw [h0] at hd
  rw [hd]
  by_cases e0 : s0.1 = 0
  · rw [if_neg (fun h => h e0)]
    have h1' : s1 = ((rdNm T s0.2).e, (rdNm T s0.2).k) := by rw [← h1, e0]; exact stN_no
    by_cases e1 : (rdNm T s0.2).e = 0
    · rw [if_neg (fun h => h e1)]
      have e1' : s1.1 = 0 := by rw [h1']; exact e1
      have h2' : s2 = ((numR T (rdNm T s0.2).k 2).e, (numR T (rdNm T s0.2).k 2).k) := by rw [← h2, e1', stU_no, h1']
      by_cases e2 : (numR T (rdNm T s0.2).k 2).e = 0
      · rw [if_neg (fun h => h e2)]
        have e2' : s2.1 = 0 := by rw [h2']; exact e2
        have h3' : s3 = ((numR T (numR T (rdNm T s0.2).k 2).k 2).e, (numR T (numR T (rdNm T s0.2).k 2).k 2).k) := by rw [← h3, e2', stU_no, h2']
        by_cases e3 : (numR T (numR T (rdNm T s0.2).k 2).k 2).e = 0
        · rw [if_neg (fun h => h e3)]
          have e3' : s3.1 = 0 := by rw [h3']; exact e3
          refine ⟨e3'.symm, fun h => absurd e3' h, fun _ => ⟨e0, e1', e2', by rw [h3'], by rw [h1', h2']⟩⟩
        · rw [if_pos e3]
          have e3' : s3.1 ≠ 0 := by rw [h3']; exact e3
          exact ⟨by rw [h3'], fun _ => ⟨rfl, rfl⟩, fun h => absurd h e3'⟩
      · rw [if_pos e2]
        have e2' : s2.1 ≠ 0 := by rw [h2']; exact e2
        have h3' : s3 = s2 := by rw [← h3, stU_yes e2']
        exact ⟨by rw [h3', h2'], fun _ => ⟨rfl, rfl⟩, fun h => absurd (by rw [← h3']; exact h) e2'⟩
    · rw [if_pos e1]
      have e1' : s1.1 ≠ 0 := by rw [h1']; exact e1
      have h2' : s2 = s1 := by rw [← h2, stU_yes e1']
      have h3' : s3 = s2 := by rw [← h3, h2', stU_yes e1']
      exact ⟨by rw [h3', h2', h1'], fun _ => ⟨rfl, rfl⟩, fun h => absurd (by rw [← h2', ← h3']; exact h) e1'⟩
  · rw [if_pos e0]
    have h1' : s1 = s0 := by rw [← h1, stN_yes e0]
    have h2' : s2 = s1 := by rw [← h2, h1', stU_yes e0]
    have h3' : s3 = s2 := by rw [← h3, h2', h1', stU_yes e0]
    exact ⟨by rw [h3', h2', h1'], fun _ => ⟨rfl, rfl⟩, fun h => absurd (by rw [← h1', ← h2', ← h3']; exact h) e0⟩
set_option maxHeartbeats 2000000 in
theorem rcReadQ_any (S : ByteArray) (a : Int) (w : World) (hS : S.size ≤ 1099511627776) :
    Calls Tryz.prog 103 #[.string S, .int .i64 a] w (Told w (.tuple #[questV (rdQ (bs S) a).q, .int .i64 ((rdQ (bs S) a).k : Nat), .int .i64 ((rdQ (bs S) a).e : Nat)])) := by
  have HBg := Lib.hid fun wx => rcBegin_any S a wx hS
  obtain ⟨s0, e0⟩ : ∃ x, seekR (bs S) 0 a = x := ⟨_, rfl⟩
  obtain ⟨s1, e1⟩ : ∃ x, stN (bs S) s0.1 s0.2 = x := ⟨_, rfl⟩
  obtain ⟨s2, e2⟩ : ∃ x, stU (bs S) 2 s1.1 s1.2 = x := ⟨_, rfl⟩
  obtain ⟨s3, e3⟩ : ∃ x, stU (bs S) 2 s2.1 s2.2 = x := ⟨_, rfl⟩
  have HC := Lib.hid (chainQ e0 e1 e2 e3)
  have H1 := Lib.hid fun wx base c g gt (h : Cur wx base c g S s0.1 s0.2) q (ht : Lies wx gt 84 (cellsQ q)) n2 n3 bg => e1 ▸ rcName_any (i := 0) (n0 := q.n) h ht rfl hS n2 n3 bg
  have H2 := Lib.hid fun wx base c g gt (h : Cur wx base c g S s1.1 s1.2) q (ht : Lies wx gt 84 (cellsQ q)) n2 n3 bg => e2 ▸ rcShort_any (i := 1) (z := q.t) h ht rfl hS n2 n3 bg
  have H3 := Lib.hid fun wx base c g gt (h : Cur wx base c g S s2.1 s2.2) q (ht : Lies wx gt 84 (cellsQ q)) n2 n3 bg => e3 ▸ rcShort_any (i := 2) (z := q.c) h ht rfl hS n2 n3 bg
  have hP1 : ∀ wx gt q f k, NmP gt 84 (cellsQ q) 0 (bs S) f k wx → ∃ n', Lies wx gt 84 (cellsQ { q with n := n' }) ∧ ((stN (bs S) f k).1 = 0 → n' = mkb (rdNm (bs S) k).s) := fun wx gt q f k h => h
  have hP2 : ∀ wx gt q f k, ShortP gt 84 (cellsQ q) 1 (bs S) f k wx → ∃ v, Lies wx gt 84 (cellsQ { q with t := v }) ∧ (f = 0 → v = num (numR (bs S) k 2).s) := fun wx gt q f k h => h
  have hP3 : ∀ wx gt q f k, ShortP gt 84 (cellsQ q) 2 (bs S) f k wx → ∃ v, Lies wx gt 84 (cellsQ { q with c := v }) ∧ (f = 0 → v = num (numR (bs S) k 2).s) := fun wx gt q f k h => h
  have HP1 := Lib.hid hP1
  have HP2 := Lib.hid hP2
  have HP3 := Lib.hid hP3
  have E1 := Lib.hid e1
  obtain ⟨r, hr⟩ : ∃ r, rdQ (bs S) a = r := ⟨_, rfl⟩
  rw [e0] at HBg
  rw [hr] at HC ⊢
  clear e0 e1 e2 e3 hr hP1 hP2 hP3
  go_enter Tryz.func103, Tryz.ntmps103
  go_wp2_with fail
  obtain ⟨W0, hW0⟩ : ∃ W0, W0 = w.alloc (.cells (cellsQ mq0) 84) := ⟨_, rfl⟩
  have hL0 : Lies W0 w.heap.size 84 (cellsQ mq0) := by rw [hW0]; exact Lies.new w _ _
  have hB0 : Below w.heap.size w W0 := by rw [hW0]; exact (Below.refl _ w).alloc (Nat.le_refl _) _
  have hs0 : W0.heap.size = w.heap.size + 1 := by rw [hW0]; simp
  refine Calls.mono (R := BegC W0 S s0) (by rw [hW0]; exact HBg.out _) ?_
  rintro e w1 ⟨c, g, rfl, hc1, hb1⟩
  have n2 : w.heap.size ≠ c := by have := hc1.bc; omega
  have n3 : w.heap.size ≠ g := by have := hc1.bg; omega
  have hl1 := hL0.next hb1
  have hbb1 := hB0.trans (hb1.mono hB0.size)
  have HX1 := Lib.hid (H1.out w1 w.heap.size c g w.heap.size (hc1.lower (by omega)) mq0 hl1 n2 n3 (Nat.le_refl _))
  have HB1 := Lib.hid hbb1
  clear hc1 hl1 hbb1 hL0 hB0 hb1 hW0 hs0
  go_wp2_with fail
  refine HX1.out.mono ?_
  rintro e w2 ⟨rfl, hc2, hf2, hp2⟩
  obtain ⟨n', hl2, hn'⟩ := HP1.out _ _ _ _ _ hp2
  have HX2 := Lib.hid (H2.out w2 w.heap.size c g w.heap.size hc2 _ hl2 n2 n3 (Nat.le_refl _))
  have HB2 := Lib.hid (HB1.out.trans hf2.below)
  have HN := Lib.hid hn'
  clear hc2 hf2 hp2 hl2 hn'
  go_wp2_with fail
  refine HX2.out.mono ?_
  rintro e w3 ⟨rfl, hc3, hf3, hp3⟩
  obtain ⟨v1, hl3, hv1⟩ := HP2.out _ _ _ _ _ hp3
  have HX3 := Lib.hid (H3.out w3 w.heap.size c g w.heap.size hc3 _ hl3 n2 n3 (Nat.le_refl _))
  have HB3 := Lib.hid (HB2.out.trans hf3.below)
  have HV1 := Lib.hid hv1
  clear hc3 hf3 hp3 hl3 hv1
  go_wp2_with fail
  refine HX3.out.mono ?_
  rintro e w4 ⟨rfl, hc4, hf4, hp4⟩
  obtain ⟨v2, hl4, hv2⟩ := HP3.out _ _ _ _ _ hp4
  have HE := Lib.hid (rcEnd_any hc4)
  have HB4 := Lib.hid (HB3.out.trans hf4.below)
  have HL4 := Lib.hid hl4
  have HV2 := Lib.hid hv2
  clear hc4 hf4 hp4 hl4 hv2
  by_cases h0 : s3.1 = 0
  · have hst : stE s3.1 s3.2 = (s3.2, 0) := by rw [h0]; rfl
    rw [hst] at HE
    have H0 := Lib.hid h0
    clear hst h0
    go_wp2_with fail
    refine HE.out.mono ?_
    rintro e w5 ⟨rfl, hb5⟩
    have hl5 := HL4.out.next hb5
    have HB5 := Lib.hid (HB4.out.trans (hb5.mono HB4.out.size))
    obtain ⟨x0, x1, x2⟩ := liesQ hl5
    have y0 := hl5.free 0
    have y1 := hl5.free 1
    have y2 := hl5.free 2
    have HL5 := Lib.hid hl5
    clear hl5 hb5
    go_wp2
    have HF := Lib.hid (show Lies (((w5.setCell ⟨w.heap.size, 0, none⟩ (.string n')).setCell ⟨w.heap.size, 1, none⟩ (.int .i64 v1)).setCell ⟨w.heap.size, 2, none⟩ (.int .i64 v2)) w.heap.size 84 (cellsQ ⟨n', v1, v2⟩) from ((HL5.out.set 0 (.string n')).set 1 (.int .i64 v1)).set 2 (.int .i64 v2))
    refine bodyPost_ret (ret_q3 rfl _ _ w.heap.size ⟨n', v1, v2⟩ rfl HF.out) rfl ?_
    obtain ⟨f0, f1, f2, hk, hq⟩ := HC.out.2.2 H0.out
    have he : r.e = 0 := HC.out.1.trans H0.out
    rw [hk, hq, he]
    have hn := HN.out (by rw [E1.out]; exact f1)
    have h1 := HV1.out f1
    have h2 := HV2.out f2
    exact ⟨by rw [hn, h1, h2]; rfl, ((HB5.out.setCell (Nat.le_refl _) _).setCell (Nat.le_refl _) _).setCell (Nat.le_refl _) _⟩
  · have hst : stE s3.1 s3.2 = (0, s3.1) := if_pos h0
    rw [hst] at HE
    have hne : (((s3.1 : Nat) : Int) != 0) = true := by rw [bne_iff_ne]; omega
    have H0 := Lib.hid h0
    clear hst h0
    go_wp2_with fail
    refine HE.out.mono ?_
    rintro e w5 ⟨rfl, hb5⟩
    have hl5 := HL4.out.next hb5
    have HB5 := Lib.hid (HB4.out.trans (hb5.mono HB4.out.size))
    obtain ⟨x0, x1, x2⟩ := liesQ hl5
    have y0 := hl5.free 0
    have y1 := hl5.free 1
    have y2 := hl5.free 2
    have HL5 := Lib.hid hl5
    clear hl5 hb5
    go_wp2
    have HF := Lib.hid (show Lies (((w5.setCell ⟨w.heap.size, 0, none⟩ (.string ⟨#[]⟩)).setCell ⟨w.heap.size, 1, none⟩ (.int .i64 0)).setCell ⟨w.heap.size, 2, none⟩ (.int .i64 0)) w.heap.size 84 (cellsQ mq0) from ((HL5.out.set 0 (.string ⟨#[]⟩)).set 1 (.int .i64 0)).set 2 (.int .i64 0))
    refine bodyPost_ret (ret_q3 rfl _ _ w.heap.size mq0 rfl HF.out) rfl ?_
    obtain ⟨hk, hq⟩ := HC.out.2.1 H0.out
    rw [hk, hq, HC.out.1]
    exact ⟨rfl, ((HB5.out.setCell (Nat.le_refl _) _).setCell (Nat.le_refl _) _).setCell (Nat.le_refl _) _⟩
end Go.Proofs.YtadeflehdfmilaaGreat
namespace Go.Proofs.YtadeflehdfmilaaGreat
open Go.RowKit Go.Maps
set_option linter.unusedVariables false
set_option maxRecDepth 100000

/-- Data are written into a record. -/
theorem putR12 {w : World} {b : Nat} {t : TypeId} {r : MR} {d' : MD} {tv tv' : Value} (h : Lies w b t (cellsR r tv)) :
    Lies ((((((((((((w.setCell ⟨b, 4, none⟩ (.bool d'.six)).setCell ⟨b, 5, none⟩ (.int .u64 (d'.hi : Int))).setCell ⟨b, 6, none⟩ (.int .u64 (d'.lo : Int))).setCell ⟨b, 7, none⟩ (.string d'.n)).setCell ⟨b, 8, none⟩ (.string d'.m)).setCell ⟨b, 9, none⟩ (.int .u32 (d'.v0 : Int))).setCell ⟨b, 10, none⟩ (.int .u32 (d'.v1 : Int))).setCell ⟨b, 11, none⟩ (.int .u32 (d'.v2 : Int))).setCell ⟨b, 12, none⟩ (.int .u32 (d'.v3 : Int))).setCell ⟨b, 13, none⟩ (.int .u32 (d'.v4 : Int))).setCell ⟨b, 14, none⟩ (tv')).setCell ⟨b, 15, none⟩ (.string d'.r)) b t (cellsR { r with d := d' } tv') ∧ w.grownBy ((((((((((((w.setCell ⟨b, 4, none⟩ (.bool d'.six)).setCell ⟨b, 5, none⟩ (.int .u64 (d'.hi : Int))).setCell ⟨b, 6, none⟩ (.int .u64 (d'.lo : Int))).setCell ⟨b, 7, none⟩ (.string d'.n)).setCell ⟨b, 8, none⟩ (.string d'.m)).setCell ⟨b, 9, none⟩ (.int .u32 (d'.v0 : Int))).setCell ⟨b, 10, none⟩ (.int .u32 (d'.v1 : Int))).setCell ⟨b, 11, none⟩ (.int .u32 (d'.v2 : Int))).setCell ⟨b, 12, none⟩ (.int .u32 (d'.v3 : Int))).setCell ⟨b, 13, none⟩ (.int .u32 (d'.v4 : Int))).setCell ⟨b, 14, none⟩ (tv')).setCell ⟨b, 15, none⟩ (.string d'.r)) (some b) :=
  have h0 : Lies w b t #[.string r.n, .int .i64 r.t, .int .i64 r.c, .int .u32 (r.x : Int), .bool r.d.six, .int .u64 (r.d.hi : Int), .int .u64 (r.d.lo : Int), .string r.d.n, .string r.d.m, .int .u32 (r.d.v0 : Int), .int .u32 (r.d.v1 : Int), .int .u32 (r.d.v2 : Int), .int .u32 (r.d.v3 : Int), .int .u32 (r.d.v4 : Int), tv, .string r.d.r] := h
  have s0 : Lies _ b t #[.string r.n, .int .i64 r.t, .int .i64 r.c, .int .u32 (r.x : Int), .bool d'.six, .int .u64 (r.d.hi : Int), .int .u64 (r.d.lo : Int), .string r.d.n, .string r.d.m, .int .u32 (r.d.v0 : Int), .int .u32 (r.d.v1 : Int), .int .u32 (r.d.v2 : Int), .int .u32 (r.d.v3 : Int), .int .u32 (r.d.v4 : Int), tv, .string r.d.r] := h0.set 4 (.bool d'.six)
  have s1 : Lies _ b t #[.string r.n, .int .i64 r.t, .int .i64 r.c, .int .u32 (r.x : Int), .bool d'.six, .int .u64 (d'.hi : Int), .int .u64 (r.d.lo : Int), .string r.d.n, .string r.d.m, .int .u32 (r.d.v0 : Int), .int .u32 (r.d.v1 : Int), .int .u32 (r.d.v2 : Int), .int .u32 (r.d.v3 : Int), .int .u32 (r.d.v4 : Int), tv, .string r.d.r] := s0.set 5 (.int .u64 (d'.hi : Int))
  have s2 : Lies _ b t #[.string r.n, .int .i64 r.t, .int .i64 r.c, .int .u32 (r.x : Int), .bool d'.six, .int .u64 (d'.hi : Int), .int .u64 (d'.lo : Int), .string r.d.n, .string r.d.m, .int .u32 (r.d.v0 : Int), .int .u32 (r.d.v1 : Int), .int .u32 (r.d.v2 : Int), .int .u32 (r.d.v3 : Int), .int .u32 (r.d.v4 : Int), tv, .string r.d.r] := s1.set 6 (.int .u64 (d'.lo : Int))
  have s3 : Lies _ b t #[.string r.n, .int .i64 r.t, .int .i64 r.c, .int .u32 (r.x : Int), .bool d'.six, .int .u64 (d'.hi : Int), .int .u64 (d'.lo : Int), .string d'.n, .string r.d.m, .int .u32 (r.d.v0 : Int), .int .u32 (r.d.v1 : Int), .int .u32 (r.d.v2 : Int), .int .u32 (r.d.v3 : Int), .int .u32 (r.d.v4 : Int), tv, .string r.d.r] := s2.set 7 (.string d'.n)
  have s4 : Lies _ b t #[.string r.n, .int .i64 r.t, .int .i64 r.c, .int .u32 (r.x : Int), .bool d'.six, .int .u64 (d'.hi : Int), .int .u64 (d'.lo : Int), .string d'.n, .string d'.m, .int .u32 (r.d.v0 : Int), .int .u32 (r.d.v1 : Int), .int .u32 (r.d.v2 : Int), .int .u32 (r.d.v3 : Int), .int .u32 (r.d.v4 : Int), tv, .string r.d.r] := s3.set 8 (.string d'.m)
  have s5 : Lies _ b t #[.string r.n, .int .i64 r.t, .int .i64 r.c, .int .u32 (r.x : Int), .bool d'.six, .int .u64 (d'.hi : Int), .int .u64 (d'.lo : Int), .string d'.n, .string d'.m, .int .u32 (d'.v0 : Int), .int .u32 (r.d.v1 : Int), .int .u32 (r.d.v2 : Int), .int .u32 (r.d.v3 : Int), .int .u32 (r.d.v4 : Int), tv, .string r.d.r] := s4.set 9 (.int .u32 (d'.v0 : Int))
  have s6 : Lies _ b t #[.string r.n, .int .i64 r.t, .int .i64 r.c, .int .u32 (r.x : Int), .bool d'.six, .int .u64 (d'.hi : Int), .int .u64 (d'.lo : Int), .string d'.n, .string d'.m, .int .u32 (d'.v0 : Int), .int .u32 (d'.v1 : Int), .int .u32 (r.d.v2 : Int), .int .u32 (r.d.v3 : Int), .int .u32 (r.d.v4 : Int), tv, .string r.d.r] := s5.set 10 (.int .u32 (d'.v1 : Int))
  have s7 : Lies _ b t #[.string r.n, .int .i64 r.t, .int .i64 r.c, .int .u32 (r.x : Int), .bool d'.six, .int .u64 (d'.hi : Int), .int .u64 (d'.lo : Int), .string d'.n, .string d'.m, .int .u32 (d'.v0 : Int), .int .u32 (d'.v1 : Int), .int .u32 (d'.v2 : Int), .int .u32 (r.d.v3 : Int), .int .u32 (r.d.v4 : Int), tv, .string r.d.r] := s6.set 11 (.int .u32 (d'.v2 : Int))
  have s8 : Lies _ b t #[.string r.n, .int .i64 r.t, .int .i64 r.c, .int .u32 (r.x : Int), .bool d'.six, .int .u64 (d'.hi : Int), .int .u64 (d'.lo : Int), .string d'.n, .string d'.m, .int .u32 (d'.v0 : Int), .int .u32 (d'.v1 : Int), .int .u32 (d'.v2 : Int), .int .u32 (d'.v3 : Int), .int .u32 (r.d.v4 : Int), tv, .string r.d.r] := s7.set 12 (.int .u32 (d'.v3 : Int))
  have s9 : Lies _ b t #[.string r.n, .int .i64 r.t, .int .i64 r.c, .int .u32 (r.x : Int), .bool d'.six, .int .u64 (d'.hi : Int), .int .u64 (d'.lo : Int), .string d'.n, .string d'.m, .int .u32 (d'.v0 : Int), .int .u32 (d'.v1 : Int), .int .u32 (d'.v2 : Int), .int .u32 (d'.v3 : Int), .int .u32 (d'.v4 : Int), tv, .string r.d.r] := s8.set 13 (.int .u32 (d'.v4 : Int))
  have s10 : Lies _ b t #[.string r.n, .int .i64 r.t, .int .i64 r.c, .int .u32 (r.x : Int), .bool d'.six, .int .u64 (d'.hi : Int), .int .u64 (d'.lo : Int), .string d'.n, .string d'.m, .int .u32 (d'.v0 : Int), .int .u32 (d'.v1 : Int), .int .u32 (d'.v2 : Int), .int .u32 (d'.v3 : Int), .int .u32 (d'.v4 : Int), tv', .string r.d.r] := s9.set 14 (tv')
  have s11 : Lies _ b t #[.string r.n, .int .i64 r.t, .int .i64 r.c, .int .u32 (r.x : Int), .bool d'.six, .int .u64 (d'.hi : Int), .int .u64 (d'.lo : Int), .string d'.n, .string d'.m, .int .u32 (d'.v0 : Int), .int .u32 (d'.v1 : Int), .int .u32 (d'.v2 : Int), .int .u32 (d'.v3 : Int), .int .u32 (d'.v4 : Int), tv', .string d'.r] := s10.set 15 (.string d'.r)
  ⟨s11, grown_next (grown_next (grown_next (grown_next (grown_next (grown_next (grown_next (grown_next (grown_next (grown_next (grown_next (grown_one w b 4 _) (grown_one _ b 5 _)) (grown_one _ b 6 _)) (grown_one _ b 7 _)) (grown_one _ b 8 _)) (grown_one _ b 9 _)) (grown_one _ b 10 _)) (grown_one _ b 11 _)) (grown_one _ b 12 _)) (grown_one _ b 13 _)) (grown_one _ b 14 _)) (grown_one _ b 15 _)⟩
/-- A record is written whole. -/
theorem putR16 {w : World} {b : Nat} {t : TypeId} {r r' : MR} {tv tv' : Value} (h : Lies w b t (cellsR r tv)) :
    Lies ((((((((((((((((w.setCell ⟨b, 0, none⟩ (.string r'.n)).setCell ⟨b, 1, none⟩ (.int .i64 r'.t)).setCell ⟨b, 2, none⟩ (.int .i64 r'.c)).setCell ⟨b, 3, none⟩ (.int .u32 (r'.x : Int))).setCell ⟨b, 4, none⟩ (.bool r'.d.six)).setCell ⟨b, 5, none⟩ (.int .u64 (r'.d.hi : Int))).setCell ⟨b, 6, none⟩ (.int .u64 (r'.d.lo : Int))).setCell ⟨b, 7, none⟩ (.string r'.d.n)).setCell ⟨b, 8, none⟩ (.string r'.d.m)).setCell ⟨b, 9, none⟩ (.int .u32 (r'.d.v0 : Int))).setCell ⟨b, 10, none⟩ (.int .u32 (r'.d.v1 : Int))).setCell ⟨b, 11, none⟩ (.int .u32 (r'.d.v2 : Int))).setCell ⟨b, 12, none⟩ (.int .u32 (r'.d.v3 : Int))).setCell ⟨b, 13, none⟩ (.int .u32 (r'.d.v4 : Int))).setCell ⟨b, 14, none⟩ (tv')).setCell ⟨b, 15, none⟩ (.string r'.d.r)) b t (cellsR r' tv') ∧ w.grownBy ((((((((((((((((w.setCell ⟨b, 0, none⟩ (.string r'.n)).setCell ⟨b, 1, none⟩ (.int .i64 r'.t)).setCell ⟨b, 2, none⟩ (.int .i64 r'.c)).setCell ⟨b, 3, none⟩ (.int .u32 (r'.x : Int))).setCell ⟨b, 4, none⟩ (.bool r'.d.six)).setCell ⟨b, 5, none⟩ (.int .u64 (r'.d.hi : Int))).setCell ⟨b, 6, none⟩ (.int .u64 (r'.d.lo : Int))).setCell ⟨b, 7, none⟩ (.string r'.d.n)).setCell ⟨b, 8, none⟩ (.string r'.d.m)).setCell ⟨b, 9, none⟩ (.int .u32 (r'.d.v0 : Int))).setCell ⟨b, 10, none⟩ (.int .u32 (r'.d.v1 : Int))).setCell ⟨b, 11, none⟩ (.int .u32 (r'.d.v2 : Int))).setCell ⟨b, 12, none⟩ (.int .u32 (r'.d.v3 : Int))).setCell ⟨b, 13, none⟩ (.int .u32 (r'.d.v4 : Int))).setCell ⟨b, 14, none⟩ (tv')).setCell ⟨b, 15, none⟩ (.string r'.d.r)) (some b) :=
  have h0 : Lies w b t #[.string r.n, .int .i64 r.t, .int .i64 r.c, .int .u32 (r.x : Int), .bool r.d.six, .int .u64 (r.d.hi : Int), .int .u64 (r.d.lo : Int), .string r.d.n, .string r.d.m, .int .u32 (r.d.v0 : Int), .int .u32 (r.d.v1 : Int), .int .u32 (r.d.v2 : Int), .int .u32 (r.d.v3 : Int), .int .u32 (r.d.v4 : Int), tv, .string r.d.r] := h
  have s0 : Lies _ b t #[.string r'.n, .int .i64 r.t, .int .i64 r.c, .int .u32 (r.x : Int), .bool r.d.six, .int .u64 (r.d.hi : Int), .int .u64 (r.d.lo : Int), .string r.d.n, .string r.d.m, .int .u32 (r.d.v0 : Int), .int .u32 (r.d.v1 : Int), .int .u32 (r.d.v2 : Int), .int .u32 (r.d.v3 : Int), .int .u32 (r.d.v4 : Int), tv, .string r.d.r] := h0.set 0 (.string r'.n)
  have s1 : Lies _ b t #[.string r'.n, .int .i64 r'.t, .int .i64 r.c, .int .u32 (r.x : Int), .bool r.d.six, .int .u64 (r.d.hi : Int), .int .u64 (r.d.lo : Int), .string r.d.n, .string r.d.m, .int .u32 (r.d.v0 : Int), .int .u32 (r.d.v1 : Int), .int .u32 (r.d.v2 : Int), .int .u32 (r.d.v3 : Int), .int .u32 (r.d.v4 : Int), tv, .string r.d.r] := s0.set 1 (.int .i64 r'.t)
  have s2 : Lies _ b t #[.string r'.n, .int .i64 r'.t, .int .i64 r'.c, .int .u32 (r.x : Int), .bool r.d.six, .int .u64 (r.d.hi : Int), .int .u64 (r.d.lo : Int), .string r.d.n, .string r.d.m, .int .u32 (r.d.v0 : Int), .int .u32 (r.d.v1 : Int), .int .u32 (r.d.v2 : Int), .int .u32 (r.d.v3 : Int), .int .u32 (r.d.v4 : Int), tv, .string r.d.r] := s1.set 2 (.int .i64 r'.c)
  have s3 : Lies _ b t #[.string r'.n, .int .i64 r'.t, .int .i64 r'.c, .int .u32 (r'.x : Int), .bool r.d.six, .int .u64 (r.d.hi : Int), .int .u64 (r.d.lo : Int), .string r.d.n, .string r.d.m, .int .u32 (r.d.v0 : Int), .int .u32 (r.d.v1 : Int), .int .u32 (r.d.v2 : Int), .int .u32 (r.d.v3 : Int), .int .u32 (r.d.v4 : Int), tv, .string r.d.r] := s2.set 3 (.int .u32 (r'.x : Int))
  have s4 : Lies _ b t #[.string r'.n, .int .i64 r'.t, .int .i64 r'.c, .int .u32 (r'.x : Int), .bool r'.d.six, .int .u64 (r.d.hi : Int), .int .u64 (r.d.lo : Int), .string r.d.n, .string r.d.m, .int .u32 (r.d.v0 : Int), .int .u32 (r.d.v1 : Int), .int .u32 (r.d.v2 : Int), .int .u32 (r.d.v3 : Int), .int .u32 (r.d.v4 : Int), tv, .string r.d.r] := s3.set 4 (.bool r'.d.six)
  have s5 : Lies _ b t #[.string r'.n, .int .i64 r'.t, .int .i64 r'.c, .int .u32 (r'.x : Int), .bool r'.d.six, .int .u64 (r'.d.hi : Int), .int .u64 (r.d.lo : Int), .string r.d.n, .string r.d.m, .int .u32 (r.d.v0 : Int), .int .u32 (r.d.v1 : Int), .int .u32 (r.d.v2 : Int), .int .u32 (r.d.v3 : Int), .int .u32 (r.d.v4 : Int), tv, .string r.d.r] := s4.set 5 (.int .u64 (r'.d.hi : Int))
  have s6 : Lies _ b t #[.string r'.n, .int .i64 r'.t, .int .i64 r'.c, .int .u32 (r'.x : Int), .bool r'.d.six, .int .u64 (r'.d.hi : Int), .int .u64 (r'.d.lo : Int), .string r.d.n, .string r.d.m, .int .u32 (r.d.v0 : Int), .int .u32 (r.d.v1 : Int), .int .u32 (r.d.v2 : Int), .int .u32 (r.d.v3 : Int), .int .u32 (r.d.v4 : Int), tv, .string r.d.r] := s5.set 6 (.int .u64 (r'.d.lo : Int))
  have s7 : Lies _ b t #[.string r'.n, .int .i64 r'.t, .int .i64 r'.c, .int .u32 (r'.x : Int), .bool r'.d.six, .int .u64 (r'.d.hi : Int), .int .u64 (r'.d.lo : Int), .string r'.d.n, .string r.d.m, .int .u32 (r.d.v0 : Int), .int .u32 (r.d.v1 : Int), .int .u32 (r.d.v2 : Int), .int .u32 (r.d.v3 : Int), .int .u32 (r.d.v4 : Int), tv, .string r.d.r] := s6.set 7 (.string r'.d.n)
  have s8 : Lies _ b t #[.string r'.n, .int .i64 r'.t, .int .i64 r'.c, .int .u32 (r'.x : Int), .bool r'.d.six, .int .u64 (r'.d.hi : Int), .int .u64 (r'.d.lo : Int), .string r'.d.n, .string r'.d.m, .int .u32 (r.d.v0 : Int), .int .u32 (r.d.v1 : Int), .int .u32 (r.d.v2 : Int), .int .u32 (r.d.v3 : Int), .int .u32 (r.d.v4 : Int), tv, .string r.d.r] := s7.set 8 (.string r'.d.m)
  have s9 : Lies _ b t #[.string r'.n, .int .i64 r'.t, .int .i64 r'.c, .int .u32 (r'.x : Int), .bool r'.d.six, .int .u64 (r'.d.hi : Int), .int .u64 (r'.d.lo : Int), .string r'.d.n, .string r'.d.m, .int .u32 (r'.d.v0 : Int), .int .u32 (r.d.v1 : Int), .int .u32 (r.d.v2 : Int), .int .u32 (r.d.v3 : Int), .int .u32 (r.d.v4 : Int), tv, .string r.d.r] := s8.set 9 (.int .u32 (r'.d.v0 : Int))
  have s10 : Lies _ b t #[.string r'.n, .int .i64 r'.t, .int .i64 r'.c, .int .u32 (r'.x : Int), .bool r'.d.six, .int .u64 (r'.d.hi : Int), .int .u64 (r'.d.lo : Int), .string r'.d.n, .string r'.d.m, .int .u32 (r'.d.v0 : Int), .int .u32 (r'.d.v1 : Int), .int .u32 (r.d.v2 : Int), .int .u32 (r.d.v3 : Int), .int .u32 (r.d.v4 : Int), tv, .string r.d.r] := s9.set 10 (.int .u32 (r'.d.v1 : Int))
  have s11 : Lies _ b t #[.string r'.n, .int .i64 r'.t, .int .i64 r'.c, .int .u32 (r'.x : Int), .bool r'.d.six, .int .u64 (r'.d.hi : Int), .int .u64 (r'.d.lo : Int), .string r'.d.n, .string r'.d.m, .int .u32 (r'.d.v0 : Int), .int .u32 (r'.d.v1 : Int), .int .u32 (r'.d.v2 : Int), .int .u32 (r.d.v3 : Int), .int .u32 (r.d.v4 : Int), tv, .string r.d.r] := s10.set 11 (.int .u32 (r'.d.v2 : Int))
  have s12 : Lies _ b t #[.string r'.n, .int .i64 r'.t, .int .i64 r'.c, .int .u32 (r'.x : Int), .bool r'.d.six, .int .u64 (r'.d.hi : Int), .int .u64 (r'.d.lo : Int), .string r'.d.n, .string r'.d.m, .int .u32 (r'.d.v0 : Int), .int .u32 (r'.d.v1 : Int), .int .u32 (r'.d.v2 : Int), .int .u32 (r'.d.v3 : Int), .int .u32 (r.d.v4 : Int), tv, .string r.d.r] := s11.set 12 (.int .u32 (r'.d.v3 : Int))
  have s13 : Lies _ b t #[.string r'.n, .int .i64 r'.t, .int .i64 r'.c, .int .u32 (r'.x : Int), .bool r'.d.six, .int .u64 (r'.d.hi : Int), .int .u64 (r'.d.lo : Int), .string r'.d.n, .string r'.d.m, .int .u32 (r'.d.v0 : Int), .int .u32 (r'.d.v1 : Int), .int .u32 (r'.d.v2 : Int), .int .u32 (r'.d.v3 : Int), .int .u32 (r'.d.v4 : Int), tv, .string r.d.r] := s12.set 13 (.int .u32 (r'.d.v4 : Int))
  have s14 : Lies _ b t #[.string r'.n, .int .i64 r'.t, .int .i64 r'.c, .int .u32 (r'.x : Int), .bool r'.d.six, .int .u64 (r'.d.hi : Int), .int .u64 (r'.d.lo : Int), .string r'.d.n, .string r'.d.m, .int .u32 (r'.d.v0 : Int), .int .u32 (r'.d.v1 : Int), .int .u32 (r'.d.v2 : Int), .int .u32 (r'.d.v3 : Int), .int .u32 (r'.d.v4 : Int), tv', .string r.d.r] := s13.set 14 (tv')
  have s15 : Lies _ b t #[.string r'.n, .int .i64 r'.t, .int .i64 r'.c, .int .u32 (r'.x : Int), .bool r'.d.six, .int .u64 (r'.d.hi : Int), .int .u64 (r'.d.lo : Int), .string r'.d.n, .string r'.d.m, .int .u32 (r'.d.v0 : Int), .int .u32 (r'.d.v1 : Int), .int .u32 (r'.d.v2 : Int), .int .u32 (r'.d.v3 : Int), .int .u32 (r'.d.v4 : Int), tv', .string r'.d.r] := s14.set 15 (.string r'.d.r)
  ⟨s15, grown_next (grown_next (grown_next (grown_next (grown_next (grown_next (grown_next (grown_next (grown_next (grown_next (grown_next (grown_next (grown_next (grown_next (grown_next (grown_one w b 0 _) (grown_one _ b 1 _)) (grown_one _ b 2 _)) (grown_one _ b 3 _)) (grown_one _ b 4 _)) (grown_one _ b 5 _)) (grown_one _ b 6 _)) (grown_one _ b 7 _)) (grown_one _ b 8 _)) (grown_one _ b 9 _)) (grown_one _ b 10 _)) (grown_one _ b 11 _)) (grown_one _ b 12 _)) (grown_one _ b 13 _)) (grown_one _ b 14 _)) (grown_one _ b 15 _)⟩

theorem goes_data1 : Goes 167 := fun args w => by kernel_rfl
theorem goes_data2 : Goes 169 := fun args w => by kernel_rfl
theorem freeR {w : World} {b : Nat} {t : TypeId} {cs : Array Value} (h : Lies w b t cs) : (w.frozen? ⟨b, 4, none⟩ = false ∧ w.frozen? ⟨b, 5, none⟩ = false ∧ w.frozen? ⟨b, 6, none⟩ = false ∧ w.frozen? ⟨b, 7, none⟩ = false ∧ w.frozen? ⟨b, 8, none⟩ = false ∧ w.frozen? ⟨b, 9, none⟩ = false) ∧ (w.frozen? ⟨b, 10, none⟩ = false ∧ w.frozen? ⟨b, 11, none⟩ = false ∧ w.frozen? ⟨b, 12, none⟩ = false ∧ w.frozen? ⟨b, 13, none⟩ = false ∧ w.frozen? ⟨b, 14, none⟩ = false ∧ w.frozen? ⟨b, 15, none⟩ = false) ∧ (w.frozen? ⟨b, 0, none⟩ = false ∧ w.frozen? ⟨b, 1, none⟩ = false ∧ w.frozen? ⟨b, 2, none⟩ = false ∧ w.frozen? ⟨b, 3, none⟩ = false) :=
  ⟨⟨h.free 4, h.free 5, h.free 6, h.free 7, h.free 8, h.free 9⟩, ⟨h.free 10, h.free 11, h.free 12, h.free 13, h.free 14, h.free 15⟩, ⟨h.free 0, h.free 1, h.free 2, h.free 3⟩⟩
set_option maxHeartbeats 1000000 in
theorem data1_any {w : World} {base c g bc bf bz k n : Nat} {S : ByteArray} {z : Int} (h : Cur w base c g S 0 k) (hf : Lies w bf 3 #[.int .i64 z]) (hS : S.size ≤ 1099511627776)
    (hbc : w.cell? ⟨bc, 0, none⟩ = some (pp c)) (hbz : w.cell? ⟨bz, 0, none⟩ = some (.int .i64 (n : Int))) (n0 : bc ≠ g) (n1 : bz ≠ g) (n2 : bf ≠ c) (n3 : bf ≠ g) (n4 : bc ≠ bf) (n5 : bz ≠ bf) (bb : base ≤ bf) :
    Calls Tryz.prog 167 #[pp bc, pp bf, pp bz] w (Clo w base c g bf S (takR (bs S) k n).e (takR (bs S) k n).k fun w' => Lies w' bf 3 #[.int .i64 (k : Int)]) := by
  have x1 := h.cur.cell 0
  have x2 := hf.cell 0
  have x3 := hf.free 0
  have HAt := Lib.hid (rAt_any h.rd)
  obtain ⟨W, hW⟩ : ∃ W, W = w.setCell ⟨bf, 0, none⟩ (.int .i64 (k : Int)) := ⟨_, rfl⟩
  have e1 : ∀ j, j ≠ bf → W.heap[j]? = w.heap[j]? := fun j hj => by rw [hW]; exact heap_setCell_other w ⟨bf, 0, none⟩ j _ hj
  have c1 : ∀ j o, j ≠ bf → W.cell? ⟨j, o, none⟩ = w.cell? ⟨j, o, none⟩ := fun j o hj => World.cell?_of_block (w := w) (w' := W) (a := ⟨j, o, none⟩) (e1 j hj)
  have hr : RD W g S k := (e1 g (Ne.symm n3)).trans h.rd
  have hc : Lies W c 233 #[pp g, .string S, .int .i64 0] := (e1 c (Ne.symm n2)).trans h.cur
  have hl : Lies W bf 3 #[.int .i64 (k : Int)] := by rw [hW]; exact hf.set 0 _
  have hfr : Fr3 base c g bf w W := ⟨by rw [hW]; exact (Below.refl _ _).setCell bb _, fun j _ _ _ h3 => e1 j h3⟩
  have HT := Lib.hid (rTake_any (w := W.drew) (n : Int) hr.drew (by unfold maxLen; omega) h.hk)
  have hX0 : W.cell? ⟨bc, 0, none⟩ = some (pp c) ∧ W.cell? ⟨c, 0, none⟩ = some (pp g) ∧ W.cell? ⟨bz, 0, none⟩ = some (.int .i64 (n : Int)) := ⟨(c1 bc 0 n4).trans hbc, hc.cell 0, (c1 bz 0 n5).trans hbz⟩
  have HX0 : Hid (W.drew.cell? ⟨bc, 0, none⟩ = some (pp c) ∧ W.drew.cell? ⟨c, 0, none⟩ = some (pp g) ∧ W.drew.cell? ⟨bz, 0, none⟩ = some (.int .i64 (n : Int))) := Lib.hid hX0
  have HX : Hid (∀ w2, W.drew.grownBy w2 (some g) → w2.cell? ⟨bc, 0, none⟩ = some (pp c) ∧ w2.cell? ⟨c, 0, none⟩ = some (pp g) ∧ w2.cell? ⟨bz, 0, none⟩ = some (.int .i64 (n : Int))) := Lib.hid fun w2 hg =>
    ⟨hg.cell hX0.1 (fun e => n0 (by injection e)), hg.cell hX0.2.1 (fun e => h.ne (by injection e)), hg.cell hX0.2.2 (fun e => n1 (by injection e))⟩
  have HY : Hid (∀ w2, W.drew.grownBy w2 (some g) → Lies w2 bf 3 #[.int .i64 (k : Int)] ∧ Lies w2 c 233 #[pp g, .string S, .int .i64 0] ∧ Fr3 base c g bf w w2) := Lib.hid fun w2 hg =>
    ⟨Lies.grown (w := W.drew) hl.drew hg (fun e => n3 (by injection e)), Lies.grown (w := W.drew) hc.drew hg (fun e => h.ne (by injection e)), hfr.trans (Fr3.drew (Fr3.reader hg (show base ≤ W.heap.size from Nat.le_trans bb (Nat.le_of_lt hl.lt)) h.bg))⟩
  obtain ⟨q, hq⟩ : ∃ q, takR (bs S) k (n : Int) = q := ⟨_, rfl⟩
  rw [hq] at HT ⊢
  have HW := Lib.hid hW
  clear h hf hbz hq hr hc hl hfr hX0 e1 c1 hW
  go_enter Tryz.func167, Tryz.ntmps167
  go_wp2_with ((go_at_call 164; (with_reducible refine HAt.out.mono ?_); rintro e w' ⟨rfl, rfl⟩))
  rw [← HW.out]
  clear x1 x2 x3 HAt hbc
  go_region_held3 (fun w' => w'.cell? ⟨bc, 0, none⟩ = some (pp c) ∧ w'.cell? ⟨c, 0, none⟩ = some (pp g) ∧ w'.cell? ⟨bz, 0, none⟩ = some (.int .i64 (n : Int))) (first | with_reducible exact HX0.out | exact HX.out _ HG2.out | go_keep) (first | (go_at_call 168; (with_reducible refine HT.out.mono ?_); rintro e w2 ⟨rfl, hr2, hg2⟩; obtain ⟨hl2, hc2, hf2⟩ := HY.out _ hg2; have HR2 := Lib.hid hr2; have HG2 := Lib.hid hg2; have HL2 := Lib.hid hl2; have HC2 := Lib.hid hc2; have HF2 := Lib.hid hf2; clear hr2 hg2 hl2 hc2 hf2) | fail)
  go_wp2
  go_ret
  exact ⟨_, rfl, ⟨rfl, HR2.out, HF2.out, HL2.out⟩, HC2.out⟩
def Six (bc c g gr bf br k0 : Nat) (S : ByteArray) (r : MR) (w : World) : Prop := w.cell? ⟨bc, 0, none⟩ = some (pp c) ∧ w.cell? ⟨c, 0, none⟩ = some (pp g) ∧ w.cell? ⟨c, 1, none⟩ = some (.string S) ∧ w.cell? ⟨br, 0, none⟩ = some (pp gr) ∧ w.cell? ⟨gr, 1, none⟩ = some (.int .i64 r.t) ∧ w.cell? ⟨bf, 0, none⟩ = some (.int .i64 (k0 : Int))
theorem six_of {bc c g gr bf br k0 : Nat} {S : ByteArray} {r : MR} {w2 W : World} {tv : Value} (h : Six bc c g gr bf br k0 S r w2) (hp : Lies W gr 32 (cellsR r tv)) (hg : w2.grownBy W (some gr)) (n0 : bc ≠ gr) (n1 : bf ≠ gr) (n2 : gr ≠ c) (n4 : br ≠ gr) : Six bc c g gr bf br k0 S r W := by
  obtain ⟨a1, a2, a3, a4, a5, a6⟩ := h
  exact ⟨hg.cell a1 (fun e => n0 (by injection e)), hg.cell a2 (fun e => n2 (by injection e with e; exact e.symm)), hg.cell a3 (fun e => n2 (by injection e with e; exact e.symm)), hg.cell a4 (fun e => n4 (by injection e)), hp.cell 1, hg.cell a6 (fun e => n1 (by injection e))⟩
theorem six_put {bc c g gr bf br k0 : Nat} {S : ByteArray} {r : MR} {d : MD} {w2 : World} {tv tv' : Value} (h : Six bc c g gr bf br k0 S r w2) (hl : Lies w2 gr 32 (cellsR r tv)) (n0 : bc ≠ gr) (n1 : bf ≠ gr) (n2 : gr ≠ c) (n4 : br ≠ gr) :
    ((((((((((((w2.setCell ⟨gr, 4, none⟩ (.bool d.six)).setCell ⟨gr, 5, none⟩ (.int .u64 (d.hi : Int))).setCell ⟨gr, 6, none⟩ (.int .u64 (d.lo : Int))).setCell ⟨gr, 7, none⟩ (.string d.n)).setCell ⟨gr, 8, none⟩ (.string d.m)).setCell ⟨gr, 9, none⟩ (.int .u32 (d.v0 : Int))).setCell ⟨gr, 10, none⟩ (.int .u32 (d.v1 : Int))).setCell ⟨gr, 11, none⟩ (.int .u32 (d.v2 : Int))).setCell ⟨gr, 12, none⟩ (.int .u32 (d.v3 : Int))).setCell ⟨gr, 13, none⟩ (.int .u32 (d.v4 : Int))).setCell ⟨gr, 14, none⟩ (tv')).setCell ⟨gr, 15, none⟩ (.string d.r)).cell? ⟨bc, 0, none⟩ = some (pp c) ∧ ((((((((((((w2.setCell ⟨gr, 4, none⟩ (.bool d.six)).setCell ⟨gr, 5, none⟩ (.int .u64 (d.hi : Int))).setCell ⟨gr, 6, none⟩ (.int .u64 (d.lo : Int))).setCell ⟨gr, 7, none⟩ (.string d.n)).setCell ⟨gr, 8, none⟩ (.string d.m)).setCell ⟨gr, 9, none⟩ (.int .u32 (d.v0 : Int))).setCell ⟨gr, 10, none⟩ (.int .u32 (d.v1 : Int))).setCell ⟨gr, 11, none⟩ (.int .u32 (d.v2 : Int))).setCell ⟨gr, 12, none⟩ (.int .u32 (d.v3 : Int))).setCell ⟨gr, 13, none⟩ (.int .u32 (d.v4 : Int))).setCell ⟨gr, 14, none⟩ (tv')).setCell ⟨gr, 15, none⟩ (.string d.r)).cell? ⟨c, 0, none⟩ = some (pp g) ∧ ((((((((((((w2.setCell ⟨gr, 4, none⟩ (.bool d.six)).setCell ⟨gr, 5, none⟩ (.int .u64 (d.hi : Int))).setCell ⟨gr, 6, none⟩ (.int .u64 (d.lo : Int))).setCell ⟨gr, 7, none⟩ (.string d.n)).setCell ⟨gr, 8, none⟩ (.string d.m)).setCell ⟨gr, 9, none⟩ (.int .u32 (d.v0 : Int))).setCell ⟨gr, 10, none⟩ (.int .u32 (d.v1 : Int))).setCell ⟨gr, 11, none⟩ (.int .u32 (d.v2 : Int))).setCell ⟨gr, 12, none⟩ (.int .u32 (d.v3 : Int))).setCell ⟨gr, 13, none⟩ (.int .u32 (d.v4 : Int))).setCell ⟨gr, 14, none⟩ (tv')).setCell ⟨gr, 15, none⟩ (.string d.r)).cell? ⟨c, 1, none⟩ = some (.string S) ∧ ((((((((((((w2.setCell ⟨gr, 4, none⟩ (.bool d.six)).setCell ⟨gr, 5, none⟩ (.int .u64 (d.hi : Int))).setCell ⟨gr, 6, none⟩ (.int .u64 (d.lo : Int))).setCell ⟨gr, 7, none⟩ (.string d.n)).setCell ⟨gr, 8, none⟩ (.string d.m)).setCell ⟨gr, 9, none⟩ (.int .u32 (d.v0 : Int))).setCell ⟨gr, 10, none⟩ (.int .u32 (d.v1 : Int))).setCell ⟨gr, 11, none⟩ (.int .u32 (d.v2 : Int))).setCell ⟨gr, 12, none⟩ (.int .u32 (d.v3 : Int))).setCell ⟨gr, 13, none⟩ (.int .u32 (d.v4 : Int))).setCell ⟨gr, 14, none⟩ (tv')).setCell ⟨gr, 15, none⟩ (.string d.r)).cell? ⟨br, 0, none⟩ = some (pp gr) ∧ ((((((((((((w2.setCell ⟨gr, 4, none⟩ (.bool d.six)).setCell ⟨gr, 5, none⟩ (.int .u64 (d.hi : Int))).setCell ⟨gr, 6, none⟩ (.int .u64 (d.lo : Int))).setCell ⟨gr, 7, none⟩ (.string d.n)).setCell ⟨gr, 8, none⟩ (.string d.m)).setCell ⟨gr, 9, none⟩ (.int .u32 (d.v0 : Int))).setCell ⟨gr, 10, none⟩ (.int .u32 (d.v1 : Int))).setCell ⟨gr, 11, none⟩ (.int .u32 (d.v2 : Int))).setCell ⟨gr, 12, none⟩ (.int .u32 (d.v3 : Int))).setCell ⟨gr, 13, none⟩ (.int .u32 (d.v4 : Int))).setCell ⟨gr, 14, none⟩ (tv')).setCell ⟨gr, 15, none⟩ (.string d.r)).cell? ⟨gr, 1, none⟩ = some (.int .i64 r.t) ∧ ((((((((((((w2.setCell ⟨gr, 4, none⟩ (.bool d.six)).setCell ⟨gr, 5, none⟩ (.int .u64 (d.hi : Int))).setCell ⟨gr, 6, none⟩ (.int .u64 (d.lo : Int))).setCell ⟨gr, 7, none⟩ (.string d.n)).setCell ⟨gr, 8, none⟩ (.string d.m)).setCell ⟨gr, 9, none⟩ (.int .u32 (d.v0 : Int))).setCell ⟨gr, 10, none⟩ (.int .u32 (d.v1 : Int))).setCell ⟨gr, 11, none⟩ (.int .u32 (d.v2 : Int))).setCell ⟨gr, 12, none⟩ (.int .u32 (d.v3 : Int))).setCell ⟨gr, 13, none⟩ (.int .u32 (d.v4 : Int))).setCell ⟨gr, 14, none⟩ (tv')).setCell ⟨gr, 15, none⟩ (.string d.r)).cell? ⟨bf, 0, none⟩ = some (.int .i64 (k0 : Int)) := by
  obtain ⟨hp, hg⟩ := putR12 (d' := d) (tv' := tv') hl
  have hq := six_of (r := { r with d := d }) h hp hg n0 n1 n2 n4
  unfold Six at hq
  exact hq
theorem blk_ltC {w : World} {v : Value} {L : List ByteArray} (h : SRow w v L) : ∀ j, blk v = some j → j < w.heap.size := by
  rcases h with ⟨A, rfl, _⟩ | ⟨g, off, cap, rfl, h2, _⟩
  · exact fun j hj => by rw [blk_none] at hj; cases hj
  · intro j hj
    exact (blk_eq hj).2 ▸ h2
theorem lies_one {w w' : World} {b g : Nat} {t : TypeId} {cs : Array Value} (hg : w.grownBy w' (some b)) (h : Lies w g t cs) (hne : g ≠ b) : Lies w' g t cs := h.grown hg (fun e => hne (by injection e))
theorem below_of_one {w w' : World} {base b : Nat} (hg : w.grownBy w' (some b)) (hw : base ≤ w.heap.size) (hb : base ≤ b) : Below base w w' := (Below.refl base w).grown hg hw fun k hk => by injection hk with hk; omega
/-- The record behind its data's reading. -/
def DtP (lo gr : Nat) (r : MR) (ok : Nat) (d : MD) (w' : World) : Prop := ∃ d' tv', Lies w' gr 32 (cellsR { r with d := d' } tv') ∧ (∃ A n cap, tv' = Value.slice A n cap) ∧ (ok = 0 → d' = d ∧ SRow w' tv' d.L ∧ ∀ j, blk tv' = some j → lo ≤ j)
set_option maxHeartbeats 400000 in
theorem data2_any {w : World} {base c g gr bc bf br k k0 : Nat} {S : ByteArray} {r : MR} {tv : Value} (h : Cur w base c g S 0 k) (hl : Lies w gr 32 (cellsR r tv)) (htv : ∃ A n cap, tv = Value.slice A n cap) (hS : S.size ≤ 1099511627776)
    (hbc : w.cell? ⟨bc, 0, none⟩ = some (pp c)) (hbf : w.cell? ⟨bf, 0, none⟩ = some (.int .i64 (k0 : Int))) (hbr : w.cell? ⟨br, 0, none⟩ = some (pp gr)) (n0 : bc ≠ gr) (n1 : bf ≠ gr) (n2 : gr ≠ c) (n3 : gr ≠ g) (n4 : br ≠ gr) (bb : base ≤ gr) :
    Calls Tryz.prog 169 #[pp bc, pp bf, pp br] w (Clo w base c g gr S (readD (bs S) k0 k r.t).1 k (DtP w.heap.size gr r (readD (bs S) k0 k r.t).1 (readD (bs S) k0 k r.t).2)) := by
  obtain ⟨A0, m0, cap0, rfl⟩ := htv
  have hX : ∀ w2, Below w.heap.size w w2 → w2.cell? ⟨bc, 0, none⟩ = some (pp c) ∧ w2.cell? ⟨c, 0, none⟩ = some (pp g) ∧ w2.cell? ⟨c, 1, none⟩ = some (.string S) ∧ w2.cell? ⟨br, 0, none⟩ = some (pp gr) ∧ w2.cell? ⟨gr, 1, none⟩ = some (.int .i64 r.t) ∧ w2.cell? ⟨bf, 0, none⟩ = some (.int .i64 (k0 : Int)) := fun w2 hb =>
    ⟨(hb.cell (p := ⟨bc, 0, none⟩) (World.block_lt_of_cell? w _ hbc)).trans hbc, (h.cur.next hb).cell 0, (h.cur.next hb).cell 1, (hb.cell (p := ⟨br, 0, none⟩) (World.block_lt_of_cell? w _ hbr)).trans hbr, (hl.next hb).cell 1, (hb.cell (p := ⟨bf, 0, none⟩) (World.block_lt_of_cell? w _ hbf)).trans hbf⟩
  have HX := Lib.hid hX
  have HX0 : Hid (w.drew.cell? ⟨bc, 0, none⟩ = some (pp c) ∧ w.drew.cell? ⟨c, 0, none⟩ = some (pp g) ∧ w.drew.cell? ⟨c, 1, none⟩ = some (.string S) ∧ w.drew.cell? ⟨br, 0, none⟩ = some (pp gr) ∧ w.drew.cell? ⟨gr, 1, none⟩ = some (.int .i64 r.t) ∧ w.drew.cell? ⟨bf, 0, none⟩ = some (.int .i64 (k0 : Int))) := Lib.hid (hX _ (below_dr w))
  have HAt := Lib.hid (rAt_any (w := w.drew) h.rd.drew)
  have HRd := Lib.hid (Read_anyD S k0 k r.t w.drew hS)
  have HY : Hid (∀ w2, Below w.heap.size w w2 → Cur w2 base c g S 0 k ∧ Lies w2 gr 32 (cellsR r (.slice A0 m0 cap0)) ∧ Fr3 base c g gr w w2) := Lib.hid fun w2 hb => ⟨h.next hb, hl.next hb, Fr3.of_below hb h.base_le⟩
  have hrl := hl.lt
  obtain ⟨x, hx⟩ : ∃ x, readD (bs S) k0 k r.t = x := ⟨_, rfl⟩
  rw [hx] at HRd ⊢
  obtain ⟨ex, d⟩ := x
  simp only at HRd ⊢
  clear hX h hl hbc hbf hbr hx
  go_enter Tryz.func169, Tryz.ntmps169
  go_wp2
  go_region_held3 (fun w' => w'.cell? ⟨bc, 0, none⟩ = some (pp c) ∧ w'.cell? ⟨c, 0, none⟩ = some (pp g) ∧ w'.cell? ⟨c, 1, none⟩ = some (.string S) ∧ w'.cell? ⟨br, 0, none⟩ = some (pp gr) ∧ w'.cell? ⟨gr, 1, none⟩ = some (.int .i64 r.t) ∧ w'.cell? ⟨bf, 0, none⟩ = some (.int .i64 (k0 : Int))) (first | with_reducible exact HX0.out | with_reducible exact HZ2.out | with_reducible exact HZ3.out | fail) (first | (go_at_call 164; (with_reducible refine HAt.out.mono ?_); rintro e w1 ⟨rfl, rfl⟩) | (go_at_call 170; (with_reducible refine HRd.out.mono ?_); rintro e w2 ⟨tv, rfl, hrow, ⟨n, cap, A, rfl⟩, hlo, hb0⟩; have hb := (below_dr w).trans hb0; obtain ⟨hc2, hl2, hf2⟩ := HY.out _ hb; have HZ2 := Lib.hid (HX.out _ hb); obtain ⟨y0, y1, y2, y3, y4, y5, y6, y7, y8, y9, y10, y11, y12, y13, y14, y15⟩ := lies16 hl2; obtain ⟨⟨z4, z5, z6, z7, z8, z9⟩, ⟨z10, z11, z12, z13, z14, z15⟩, _⟩ := freeR hl2; have HL2 := Lib.hid hl2; have HB := Lib.hid hb; have HRow := Lib.hid hrow; have HLo := Lib.hid hlo; have HZ3 := Lib.hid (six_put (d := d) (tv' := .slice A n cap) HZ2.out hl2 n0 n1 n2 n4); have HC2 := Lib.hid hc2; have HF2 := Lib.hid hf2; clear hb0 hb hc2 hl2 hf2 hrow hlo) | fail)
  go_wp2
  go_ret
  obtain ⟨hp, hg⟩ := putR12 (d' := d) (tv' := .slice A n cap) HL2.out
  have hgr : ∀ j, j < w2.heap.size → j ≠ gr → _ := fun j h1 h2 => hg.block j h1 (fun e => h2 (by injection e))
  refine ⟨ex, rfl, ⟨rfl, lies_one hg HC2.out.rd (Ne.symm n3), ⟨HF2.out.below.trans (below_of_one hg (Nat.le_trans bb (Nat.le_of_lt HL2.out.lt)) bb), fun j hj h1 h2 h3 => (hgr j (Nat.lt_of_lt_of_le hj HF2.out.below.size) h3).trans (HF2.out.rest j hj h1 h2 h3)⟩, d, _, hp, ⟨_, _, _, rfl⟩, fun _ => ⟨rfl, HRow.out.far hg.size (fun j hj => hgr j (blk_ltC HRow.out j hj) (by have := HLo.out j hj; rw [show w.drew.heap.size = w.heap.size from rfl] at this; omega)), fun j hj => HLo.out j hj⟩⟩, lies_one hg HC2.out.cur (Ne.symm n2)⟩
/-! ### The cursor's data -/
def stT (T : List UInt8) (f k : Nat) (n : Int) : Nat × Nat := if f ≠ 0 then (f, k) else ((takR T k n).e, (takR T k n).k)
def stD (T : List UInt8) (t : Int) (f k0 k : Nat) : Nat × Nat := if f ≠ 0 then (f, k) else ((readD T k0 k t).1, k)
theorem stT_le (S : ByteArray) (f k : Nat) (n : Int) (h : k ≤ S.size) : (stT (bs S) f k n).2 ≤ S.size := by
  unfold stT
  split
  · exact h
  · have := takR_le (bs S) k n (by rw [bs_length]; exact h)
    rwa [bs_length] at this
theorem stD_le (S : ByteArray) (t : Int) (f k0 k : Nat) (h : k ≤ S.size) : (stD (bs S) t f k0 k).2 ≤ S.size := by
  unfold stD
  split
  · exact h
  · exact h
theorem stT_yes {T : List UInt8} {f k : Nat} {n : Int} (h : f ≠ 0) : stT T f k n = (f, k) := if_pos h
theorem stT_no {T : List UInt8} {k : Nat} {n : Int} : stT T 0 k n = ((takR T k n).e, (takR T k n).k) := if_neg (fun h => h rfl)
theorem stD_yes {T : List UInt8} {t : Int} {f k0 k : Nat} (h : f ≠ 0) : stD T t f k0 k = (f, k) := if_pos h
theorem stD_no {T : List UInt8} {t : Int} {k0 k : Nat} : stD T t 0 k0 k = ((readD T k0 k t).1, k) := if_neg (fun h => h rfl)
theorem DtP.keep {lo gr c : Nat} {r : MR} {ok : Nat} {d : MD} {w : World} (h : DtP lo gr r ok d w) (hc : c < lo) (hn : gr ≠ c) (o : Nat) (u : Value) : DtP lo gr r ok d (w.setCell ⟨c, o, none⟩ u) := by
  obtain ⟨d', tv', h1, h2, h3⟩ := h
  refine ⟨d', tv', (heap_setCell_other w ⟨c, o, none⟩ gr u hn).trans h1, h2, fun h0 => ?_⟩
  obtain ⟨e, hr, hl⟩ := h3 h0
  exact ⟨e, hr.far (by simp [World.setCell]) (fun j hj => heap_setCell_other w ⟨c, o, none⟩ j u (by have := hl j hj; show j ≠ c; omega)), hl⟩
theorem boxes4 (w : World) (t0 t1 t2 t3 : TypeId) (x0 x1 x2 x3 : Value) : ∃ W, W = (((w.alloc (.cells #[x0] t0)).alloc (.cells #[x1] t1)).alloc (.cells #[x2] t2)).alloc (.cells #[x3] t3) ∧ Below w.heap.size w W ∧ W.heap.size = w.heap.size + 4 ∧ Lies W w.heap.size t0 #[x0] ∧ Lies W (w.heap.size + 1) t1 #[x1] ∧ Lies W (w.heap.size + 2) t2 #[x2] ∧ Lies W (w.heap.size + 3) t3 #[x3] := by
  have s1 : (w.alloc (.cells #[x0] t0)).heap.size = w.heap.size + 1 := by simp
  have s2 : ((w.alloc (.cells #[x0] t0)).alloc (.cells #[x1] t1)).heap.size = w.heap.size + 2 := by simp
  have s3 : (((w.alloc (.cells #[x0] t0)).alloc (.cells #[x1] t1)).alloc (.cells #[x2] t2)).heap.size = w.heap.size + 3 := by simp
  have l1 := Lies.new (w.alloc (.cells #[x0] t0)) t1 #[x1]
  rw [s1] at l1
  have l2 := Lies.new ((w.alloc (.cells #[x0] t0)).alloc (.cells #[x1] t1)) t2 #[x2]
  rw [s2] at l2
  have l3 := Lies.new (((w.alloc (.cells #[x0] t0)).alloc (.cells #[x1] t1)).alloc (.cells #[x2] t2)) t3 #[x3]
  rw [s3] at l3
  exact ⟨_, rfl, ((((Below.refl _ w).alloc (Nat.le_refl _) _).alloc (by omega) _).alloc (by omega) _).alloc (by omega) _, by simp, ((((Lies.new w t0 #[x0]).alloc _).alloc _).alloc _), (l1.alloc _).alloc _, l2.alloc _, l3⟩
/-- What data's reading leaves. -/
def stData (T : List UInt8) (t : Int) (f k : Nat) : Nat × Nat := stD T t (stT T (stU T 2 f k).1 (stU T 2 f k).2 (num (numR T k 2).s : Nat)).1 (stU T 2 f k).2 (stT T (stU T 2 f k).1 (stU T 2 f k).2 (num (numR T k 2).s : Nat)).2
def datD (T : List UInt8) (t : Int) (f k : Nat) : MD := (readD T (stU T 2 f k).2 (stT T (stU T 2 f k).1 (stU T 2 f k).2 (num (numR T k 2).s : Nat)).2 t).2
set_option maxHeartbeats 2000000 in
theorem rcData_any {w : World} {base c g gr f k : Nat} {S : ByteArray} {r : MR} {tv : Value} (h : Cur w base c g S f k) (hl : Lies w gr 32 (cellsR r tv)) (htv : ∃ A n cap, tv = Value.slice A n cap) (hS : S.size ≤ 1099511627776) (n2 : gr ≠ c) (n3 : gr ≠ g) (bb : base ≤ gr) :
    Calls Tryz.prog 134 #[pp c, pp gr] w (PartR w base c g gr S (stData (bs S) r.t f k) (DtP w.heap.size gr r (stData (bs S) r.t f k).1 (datD (bs S) r.t f k))) := by
  obtain ⟨W, hW, hB, hsz, l0, l1, l2, l3⟩ := boxes4 w 196 206 3 3 (pp c) (pp gr) (.int .i64 0) (.int .i64 0)
  have hlt := hl.lt
  have hlc := h.cur.lt
  have hlg := h.rd.lt
  have hbw := h.base_le
  have n4 := h.ne
  have c0 := l0.cell 0
  have HS := Lib.hid (rcShort_any (h.next hB) l2 (i := 0) (z := 0) rfl hS (by omega) (by omega) (by omega))
  have hL := hl.next hB
  have HB2 : Hid (∀ w2, Cur w2 base c g S (stU (bs S) 2 f k).1 (stU (bs S) 2 f k).2 → Fr3 base c g (w.heap.size + 2) w w2 → Fr3 base c g (w.heap.size + 2) W w2 → ShortP (w.heap.size + 2) 3 #[.int .i64 0] 0 (bs S) f k w2 →
      Calls Tryz.prog 159 #[pp c, .func (.func 167) #[] #[pp w.heap.size, pp (w.heap.size + 3), pp (w.heap.size + 2)]] w2
        (PartR w2 base c g (w.heap.size + 3) S (stT (bs S) (stU (bs S) 2 f k).1 (stU (bs S) 2 f k).2 (num (numR (bs S) k 2).s : Nat)) fun w' => (stU (bs S) 2 f k).1 = 0 → Lies w' (w.heap.size + 3) 3 #[.int .i64 ((stU (bs S) 2 f k).2 : Int)])) := Lib.hid fun w2 hc2 hf0 hf2 hp2 => by
    have k0 : Lies w2 w.heap.size 196 #[pp c] := (hf2.rest _ (by omega) (by omega) (by omega) (by omega)).trans l0
    have k3 : Lies w2 (w.heap.size + 3) 3 #[.int .i64 0] := (hf2.rest _ (by omega) (by omega) (by omega) (by omega)).trans l3
    obtain ⟨v, hv, hv0⟩ := hp2
    refine step_part (Below.refl _ _) hc2 hc2.base_le goes_data1 (stT_le S _ _ _ hc2.hk) (fun h0 => ?_) (fun hf => ⟨stT_yes hf, fun hz => absurd hz hf⟩) (fun wx u hp hz => (heap_setCell_other wx ⟨c, 2, none⟩ (w.heap.size + 3) u (by show w.heap.size + 3 ≠ c; omega)).trans (hp hz))
    have hf00 : f = 0 := by
      refine Classical.byContradiction fun hn => ?_
      rw [stU_yes hn] at h0
      exact hn h0
    have hv' := hv0 hf00
    subst hv'
    rw [h0] at hc2
    refine (data1_any hc2 k3 hS (k0.cell 0) (hv.cell 0) (by omega) (by omega) (by omega) (by omega) (by omega) (by omega) (by omega)).mono ?_
    rintro e w' ⟨x, rfl, ⟨h1, h2, h3, h4⟩, h6⟩
    rw [h0, stT_no]
    exact ⟨x, rfl, ⟨h1, h2, h3, fun _ => h4⟩, h6⟩
  have HB3 : Hid (∀ w3, Cur w3 base c g S (stT (bs S) (stU (bs S) 2 f k).1 (stU (bs S) 2 f k).2 (num (numR (bs S) k 2).s : Nat)).1 (stT (bs S) (stU (bs S) 2 f k).1 (stU (bs S) 2 f k).2 (num (numR (bs S) k 2).s : Nat)).2 → w.heap.size ≤ w3.heap.size → Lies w3 w.heap.size 196 #[pp c] → Lies w3 (w.heap.size + 1) 206 #[pp gr] → Lies w3 gr 32 (cellsR r tv) →
      ((stU (bs S) 2 f k).1 = 0 → Lies w3 (w.heap.size + 3) 3 #[.int .i64 ((stU (bs S) 2 f k).2 : Int)]) →
      Calls Tryz.prog 159 #[pp c, .func (.func 169) #[] #[pp w.heap.size, pp (w.heap.size + 3), pp (w.heap.size + 1)]] w3
        (PartR w3 base c g gr S (stData (bs S) r.t f k) (DtP w.heap.size gr r (stData (bs S) r.t f k).1 (datD (bs S) r.t f k)))) := Lib.hid fun w3 hc3 hz3 k0 k1 hr3 hp3 => by
    refine step_part (Below.refl _ _) hc3 hc3.base_le goes_data2 (stD_le S _ _ _ _ hc3.hk) (fun h0 => ?_) (fun hf => ⟨stD_yes hf, r.d, tv, hr3, htv, fun hz => absurd (by unfold stData at hz; rw [stD_yes hf] at hz; exact hz) hf⟩) (fun wx u hp => hp.keep hlc n2 2 u)
    have h1 : (stU (bs S) 2 f k).1 = 0 := by
      refine Classical.byContradiction fun hn => ?_
      rw [stT_yes hn] at h0
      exact hn h0
    unfold stData datD
    obtain ⟨st, hst⟩ : ∃ st, stT (bs S) (stU (bs S) 2 f k).1 (stU (bs S) 2 f k).2 (num (numR (bs S) k 2).s : Nat) = st := ⟨_, rfl⟩
    rw [hst] at hc3 h0 ⊢
    rw [h0] at hc3
    refine (data2_any hc3 hr3 htv hS (k0.cell 0) ((hp3 h1).cell 0) (k1.cell 0) (by omega) (by omega) n2 n3 (by omega) bb).mono ?_
    rintro e w' ⟨x, rfl, ⟨h1, h2, h3, h4⟩, h6⟩
    rw [h0, stD_no]
    refine ⟨x, rfl, ⟨h1, h2, h3, ?_⟩, h6⟩
    obtain ⟨d', tv', g1, g2, g3⟩ := h4
    exact ⟨d', tv', g1, g2, fun hz => let ⟨a1, a2, a3⟩ := g3 hz; ⟨a1, a2, fun j hj => Nat.le_trans hz3 (a3 j hj)⟩⟩
  obtain ⟨s1, hs1⟩ : ∃ x, stU (bs S) 2 f k = x := ⟨_, rfl⟩
  rw [hs1] at HS HB2 HB3
  obtain ⟨s2, hs2⟩ : ∃ x, stT (bs S) s1.1 s1.2 (num (numR (bs S) k 2).s : Nat) = x := ⟨_, rfl⟩
  rw [hs2] at HB2 HB3
  obtain ⟨s3, hs3⟩ : ∃ x, stData (bs S) r.t f k = x := ⟨_, rfl⟩
  rw [hs3] at HB3 ⊢
  have HF : Hid (∀ w2, Fr3 base c g (w.heap.size + 2) W w2 → Fr3 base c g (w.heap.size + 2) w w2 ∧ Lies w2 w.heap.size 196 #[pp c] ∧ Lies w2 (w.heap.size + 1) 206 #[pp gr] ∧ Lies w2 gr 32 (cellsR r tv)) := Lib.hid fun w2 hf2 =>
    ⟨(Fr3.of_below hB hbw).trans hf2, (hf2.rest _ (by omega) (by omega) (by omega) (by omega)).trans l0, (hf2.rest _ (by omega) (by omega) (by omega) (by omega)).trans l1, (hf2.rest _ (by omega) (by omega) (by omega) (by omega)).trans hL⟩
  have HG : Hid (∀ w2 w3, Fr3 base c g (w.heap.size + 2) w w2 → Fr3 base c g (w.heap.size + 3) w2 w3 → Lies w2 w.heap.size 196 #[pp c] → Lies w2 (w.heap.size + 1) 206 #[pp gr] → Lies w2 gr 32 (cellsR r tv) →
      w.heap.size ≤ w3.heap.size ∧ Lies w3 w.heap.size 196 #[pp c] ∧ Lies w3 (w.heap.size + 1) 206 #[pp gr] ∧ Lies w3 gr 32 (cellsR r tv)) := Lib.hid fun w2 w3 ha hb k0 k1 k2 =>
    ⟨Nat.le_trans ha.below.size hb.below.size, (hb.rest _ k0.lt (by omega) (by omega) (by omega)).trans k0, (hb.rest _ k1.lt (by omega) (by omega) (by omega)).trans k1, (hb.rest _ k2.lt (by omega) (by omega) (by omega)).trans k2⟩
  have HH : Hid (∀ w2 w3 w4, Fr3 base c g (w.heap.size + 2) w w2 → Fr3 base c g (w.heap.size + 3) w2 w3 → Fr3 base c g gr w3 w4 → Fr3 base c g gr w w4) := Lib.hid fun w2 w3 w4 h1 h2 h3 =>
    ⟨(h1.below.trans h2.below).trans h3.below, fun j hj a1 a2 a3 => (h3.rest j (Nat.lt_of_lt_of_le hj (Nat.le_trans h1.below.size h2.below.size)) a1 a2 a3).trans ((h2.rest j (Nat.lt_of_lt_of_le hj h1.below.size) a1 a2 (by omega)).trans (h1.rest j hj a1 a2 (by omega)))⟩
  clear hs1 hs2 hs3 h hl htv hL hB hsz l0 l1 l2 l3 hbw
  go_enter Tryz.func134, Tryz.ntmps134
  go_wp2_with fail
  rw [← hW]
  refine HS.out.mono ?_
  rintro e w2 ⟨rfl, hc2, hf2, hp2⟩
  obtain ⟨hf20, k0, k1, k2⟩ := HF.out _ hf2
  have HX2 := Lib.hid (HB2.out w2 hc2 hf20 hf2 hp2)
  have HK2 := Lib.hid (And.intro hf20 (And.intro k0 (And.intro k1 k2)))
  clear hc2 hf2 hp2 hf20 k0 k1 k2
  go_wp2_with fail
  refine HX2.out.mono ?_
  rintro e w3 ⟨rfl, hc3, hf3, hp3⟩
  obtain ⟨hz3, k0, k1, k2⟩ := HG.out w2 w3 HK2.out.1 hf3 HK2.out.2.1 HK2.out.2.2.1 HK2.out.2.2.2
  have HX3 := Lib.hid (HB3.out w3 hc3 hz3 k0 k1 k2 hp3)
  have HF3 := Lib.hid hf3
  clear hc3 hf3 hp3 hz3 k0 k1 k2
  go_wp2_with fail
  refine HX3.out.mono ?_
  rintro e w4 ⟨rfl, hc4, hf4, hp4⟩
  have HC4 := Lib.hid hc4
  have HP4 := Lib.hid hp4
  have HF4 := Lib.hid (HH.out w2 w3 w4 HK2.out.1 HF3.out hf4)
  clear hc4 hf4 hp4
  go_wp2
  go_ret
  exact ⟨rfl, HC4.out, HF4.out, HP4.out⟩
end Go.Proofs.YtadeflehdfmilaaGreat
namespace Go.Proofs.YtadeflehdfmilaaGreat
open Go.RowKit Go.Maps
set_option linter.unusedVariables false
set_option maxRecDepth 100000

theorem chainR {T : List UInt8} {a t : Int} {s3 s4 s5 : Nat × Nat} (he : (rdQ T a).e = s3.1) (hk : s3.1 = 0 → (rdQ T a).k = s3.2) (h4 : stU T 4 s3.1 s3.2 = s4) (ht : s4.1 = 0 → t = (rdQ T a).q.t) (h5 : stData T t s4.1 s4.2 = s5) :
    (rdR T a).e = s5.1 ∧ (s5.1 ≠ 0 → (rdR T a).k = 0 ∧ (rdR T a).r = mr0) ∧ (s5.1 = 0 → s3.1 = 0 ∧ s4.1 = 0 ∧ (rdR T a).k = s5.2 ∧ (rdR T a).r = ⟨(rdQ T a).q.n, (rdQ T a).q.t, (rdQ T a).q.c, num (numR T s3.2 4).s, datD T t s4.1 s4.2⟩) := by
  unfold rdR
  rw [he]
  by_cases e3 : s3.1 = 0
  · rw [if_neg (fun h => h e3), hk e3]
    have h4' : s4 = ((numR T s3.2 4).e, (numR T s3.2 4).k) := by rw [← h4, e3]; exact stU_no
    unfold rdTail
    by_cases e4 : (numR T s3.2 4).e = 0
    · rw [if_neg (fun h => h e4)]
      have e4' : s4.1 = 0 := by rw [h4']; exact e4
      have ht' := ht e4'
      have hk4 : (numR T s3.2 4).k = s4.2 := by rw [h4']
      unfold stData at h5
      unfold datD
      rw [hk4]
      rw [e4', stU_no] at h5 ⊢
      simp only at h5 ⊢
      by_cases e5 : (numR T s4.2 2).e = 0
      · rw [if_neg (fun h => h e5)]
        rw [e5, stT_no] at h5 ⊢
        simp only at h5 ⊢
        obtain ⟨z, hz⟩ : ∃ z, takR T (numR T s4.2 2).k (num (numR T s4.2 2).s : Nat) = z := ⟨_, rfl⟩
        rw [hz] at h5 ⊢
        by_cases e6 : z.e = 0
        · rw [if_neg (fun h => h e6)]
          rw [e6, stD_no] at h5
          rw [← ht']
          obtain ⟨y, hy⟩ : ∃ y, readD T (numR T s4.2 2).k z.k t = y := ⟨_, rfl⟩
          rw [hy] at h5 ⊢
          by_cases e7 : y.1 = 0
          · rw [if_neg (fun h => h e7)]
            have e7' : s5.1 = 0 := by rw [← h5]; exact e7
            exact ⟨e7'.symm, fun h => absurd e7' h, fun _ => ⟨e3, trivial, by rw [← h5], rfl⟩⟩
          · rw [if_pos e7]
            have e7' : s5.1 ≠ 0 := by rw [← h5]; exact e7
            exact ⟨by rw [← h5], fun _ => ⟨rfl, rfl⟩, fun h => absurd h e7'⟩
        · rw [if_pos e6]
          rw [stD_yes e6] at h5
          have e6' : s5.1 ≠ 0 := by rw [← h5]; exact e6
          exact ⟨by rw [← h5], fun _ => ⟨rfl, rfl⟩, fun h => absurd h e6'⟩
      · rw [if_pos e5]
        rw [stT_yes e5, stD_yes e5] at h5
        have e5' : s5.1 ≠ 0 := by rw [← h5]; exact e5
        exact ⟨by rw [← h5], fun _ => ⟨rfl, rfl⟩, fun h => absurd h e5'⟩
    · rw [if_pos e4]
      have e4' : s4.1 ≠ 0 := by rw [h4']; exact e4
      have h5' : s5 = s4 := by
        rw [← h5]
        unfold stData
        rw [stU_yes e4', stT_yes e4', stD_yes e4']
      exact ⟨by rw [h5', h4'], fun _ => ⟨rfl, rfl⟩, fun h => absurd (by rw [← h5']; exact h) e4'⟩
  · rw [if_pos e3]
    have h4' : s4 = s3 := by rw [← h4, stU_yes e3]
    have e4' : s4.1 ≠ 0 := by rw [h4']; exact e3
    have h5' : s5 = s4 := by
      rw [← h5]
      unfold stData
      rw [stU_yes e4', stT_yes e4', stD_yes e4']
    exact ⟨by rw [h5', h4'], fun _ => ⟨rfl, rfl⟩, fun h => absurd (by rw [← h5']; exact h) e4'⟩
/-- Nothing is written into a record. -/
theorem putZ16 {w : World} {b : Nat} {t : TypeId} {r : MR} {tv : Value} (h : Lies w b t (cellsR r tv)) :
    Lies ((((((((((((((((w.setCell ⟨b, 0, none⟩ (.string ⟨#[]⟩)).setCell ⟨b, 1, none⟩ (.int .i64 0)).setCell ⟨b, 2, none⟩ (.int .i64 0)).setCell ⟨b, 3, none⟩ (.int .u32 0)).setCell ⟨b, 4, none⟩ (.bool false)).setCell ⟨b, 5, none⟩ (.int .u64 0)).setCell ⟨b, 6, none⟩ (.int .u64 0)).setCell ⟨b, 7, none⟩ (.string ⟨#[]⟩)).setCell ⟨b, 8, none⟩ (.string ⟨#[]⟩)).setCell ⟨b, 9, none⟩ (.int .u32 0)).setCell ⟨b, 10, none⟩ (.int .u32 0)).setCell ⟨b, 11, none⟩ (.int .u32 0)).setCell ⟨b, 12, none⟩ (.int .u32 0)).setCell ⟨b, 13, none⟩ (.int .u32 0)).setCell ⟨b, 14, none⟩ (.slice none 0 0)).setCell ⟨b, 15, none⟩ (.string ⟨#[]⟩)) b t (cellsR mr0 nilS) ∧ w.grownBy ((((((((((((((((w.setCell ⟨b, 0, none⟩ (.string ⟨#[]⟩)).setCell ⟨b, 1, none⟩ (.int .i64 0)).setCell ⟨b, 2, none⟩ (.int .i64 0)).setCell ⟨b, 3, none⟩ (.int .u32 0)).setCell ⟨b, 4, none⟩ (.bool false)).setCell ⟨b, 5, none⟩ (.int .u64 0)).setCell ⟨b, 6, none⟩ (.int .u64 0)).setCell ⟨b, 7, none⟩ (.string ⟨#[]⟩)).setCell ⟨b, 8, none⟩ (.string ⟨#[]⟩)).setCell ⟨b, 9, none⟩ (.int .u32 0)).setCell ⟨b, 10, none⟩ (.int .u32 0)).setCell ⟨b, 11, none⟩ (.int .u32 0)).setCell ⟨b, 12, none⟩ (.int .u32 0)).setCell ⟨b, 13, none⟩ (.int .u32 0)).setCell ⟨b, 14, none⟩ (.slice none 0 0)).setCell ⟨b, 15, none⟩ (.string ⟨#[]⟩)) (some b) :=
  have h0 : Lies w b t #[.string r.n, .int .i64 r.t, .int .i64 r.c, .int .u32 (r.x : Int), .bool r.d.six, .int .u64 (r.d.hi : Int), .int .u64 (r.d.lo : Int), .string r.d.n, .string r.d.m, .int .u32 (r.d.v0 : Int), .int .u32 (r.d.v1 : Int), .int .u32 (r.d.v2 : Int), .int .u32 (r.d.v3 : Int), .int .u32 (r.d.v4 : Int), tv, .string r.d.r] := h
  have s0 : Lies _ b t #[.string ⟨#[]⟩, .int .i64 r.t, .int .i64 r.c, .int .u32 (r.x : Int), .bool r.d.six, .int .u64 (r.d.hi : Int), .int .u64 (r.d.lo : Int), .string r.d.n, .string r.d.m, .int .u32 (r.d.v0 : Int), .int .u32 (r.d.v1 : Int), .int .u32 (r.d.v2 : Int), .int .u32 (r.d.v3 : Int), .int .u32 (r.d.v4 : Int), tv, .string r.d.r] := h0.set 0 (.string ⟨#[]⟩)
  have s1 : Lies _ b t #[.string ⟨#[]⟩, .int .i64 0, .int .i64 r.c, .int .u32 (r.x : Int), .bool r.d.six, .int .u64 (r.d.hi : Int), .int .u64 (r.d.lo : Int), .string r.d.n, .string r.d.m, .int .u32 (r.d.v0 : Int), .int .u32 (r.d.v1 : Int), .int .u32 (r.d.v2 : Int), .int .u32 (r.d.v3 : Int), .int .u32 (r.d.v4 : Int), tv, .string r.d.r] := s0.set 1 (.int .i64 0)
  have s2 : Lies _ b t #[.string ⟨#[]⟩, .int .i64 0, .int .i64 0, .int .u32 (r.x : Int), .bool r.d.six, .int .u64 (r.d.hi : Int), .int .u64 (r.d.lo : Int), .string r.d.n, .string r.d.m, .int .u32 (r.d.v0 : Int), .int .u32 (r.d.v1 : Int), .int .u32 (r.d.v2 : Int), .int .u32 (r.d.v3 : Int), .int .u32 (r.d.v4 : Int), tv, .string r.d.r] := s1.set 2 (.int .i64 0)
  have s3 : Lies _ b t #[.string ⟨#[]⟩, .int .i64 0, .int .i64 0, .int .u32 0, .bool r.d.six, .int .u64 (r.d.hi : Int), .int .u64 (r.d.lo : Int), .string r.d.n, .string r.d.m, .int .u32 (r.d.v0 : Int), .int .u32 (r.d.v1 : Int), .int .u32 (r.d.v2 : Int), .int .u32 (r.d.v3 : Int), .int .u32 (r.d.v4 : Int), tv, .string r.d.r] := s2.set 3 (.int .u32 0)
  have s4 : Lies _ b t #[.string ⟨#[]⟩, .int .i64 0, .int .i64 0, .int .u32 0, .bool false, .int .u64 (r.d.hi : Int), .int .u64 (r.d.lo : Int), .string r.d.n, .string r.d.m, .int .u32 (r.d.v0 : Int), .int .u32 (r.d.v1 : Int), .int .u32 (r.d.v2 : Int), .int .u32 (r.d.v3 : Int), .int .u32 (r.d.v4 : Int), tv, .string r.d.r] := s3.set 4 (.bool false)
  have s5 : Lies _ b t #[.string ⟨#[]⟩, .int .i64 0, .int .i64 0, .int .u32 0, .bool false, .int .u64 0, .int .u64 (r.d.lo : Int), .string r.d.n, .string r.d.m, .int .u32 (r.d.v0 : Int), .int .u32 (r.d.v1 : Int), .int .u32 (r.d.v2 : Int), .int .u32 (r.d.v3 : Int), .int .u32 (r.d.v4 : Int), tv, .string r.d.r] := s4.set 5 (.int .u64 0)
  have s6 : Lies _ b t #[.string ⟨#[]⟩, .int .i64 0, .int .i64 0, .int .u32 0, .bool false, .int .u64 0, .int .u64 0, .string r.d.n, .string r.d.m, .int .u32 (r.d.v0 : Int), .int .u32 (r.d.v1 : Int), .int .u32 (r.d.v2 : Int), .int .u32 (r.d.v3 : Int), .int .u32 (r.d.v4 : Int), tv, .string r.d.r] := s5.set 6 (.int .u64 0)
  have s7 : Lies _ b t #[.string ⟨#[]⟩, .int .i64 0, .int .i64 0, .int .u32 0, .bool false, .int .u64 0, .int .u64 0, .string ⟨#[]⟩, .string r.d.m, .int .u32 (r.d.v0 : Int), .int .u32 (r.d.v1 : Int), .int .u32 (r.d.v2 : Int), .int .u32 (r.d.v3 : Int), .int .u32 (r.d.v4 : Int), tv, .string r.d.r] := s6.set 7 (.string ⟨#[]⟩)
  have s8 : Lies _ b t #[.string ⟨#[]⟩, .int .i64 0, .int .i64 0, .int .u32 0, .bool false, .int .u64 0, .int .u64 0, .string ⟨#[]⟩, .string ⟨#[]⟩, .int .u32 (r.d.v0 : Int), .int .u32 (r.d.v1 : Int), .int .u32 (r.d.v2 : Int), .int .u32 (r.d.v3 : Int), .int .u32 (r.d.v4 : Int), tv, .string r.d.r] := s7.set 8 (.string ⟨#[]⟩)
  have s9 : Lies _ b t #[.string ⟨#[]⟩, .int .i64 0, .int .i64 0, .int .u32 0, .bool false, .int .u64 0, .int .u64 0, .string ⟨#[]⟩, .string ⟨#[]⟩, .int .u32 0, .int .u32 (r.d.v1 : Int), .int .u32 (r.d.v2 : Int), .int .u32 (r.d.v3 : Int), .int .u32 (r.d.v4 : Int), tv, .string r.d.r] := s8.set 9 (.int .u32 0)
  have s10 : Lies _ b t #[.string ⟨#[]⟩, .int .i64 0, .int .i64 0, .int .u32 0, .bool false, .int .u64 0, .int .u64 0, .string ⟨#[]⟩, .string ⟨#[]⟩, .int .u32 0, .int .u32 0, .int .u32 (r.d.v2 : Int), .int .u32 (r.d.v3 : Int), .int .u32 (r.d.v4 : Int), tv, .string r.d.r] := s9.set 10 (.int .u32 0)
  have s11 : Lies _ b t #[.string ⟨#[]⟩, .int .i64 0, .int .i64 0, .int .u32 0, .bool false, .int .u64 0, .int .u64 0, .string ⟨#[]⟩, .string ⟨#[]⟩, .int .u32 0, .int .u32 0, .int .u32 0, .int .u32 (r.d.v3 : Int), .int .u32 (r.d.v4 : Int), tv, .string r.d.r] := s10.set 11 (.int .u32 0)
  have s12 : Lies _ b t #[.string ⟨#[]⟩, .int .i64 0, .int .i64 0, .int .u32 0, .bool false, .int .u64 0, .int .u64 0, .string ⟨#[]⟩, .string ⟨#[]⟩, .int .u32 0, .int .u32 0, .int .u32 0, .int .u32 0, .int .u32 (r.d.v4 : Int), tv, .string r.d.r] := s11.set 12 (.int .u32 0)
  have s13 : Lies _ b t #[.string ⟨#[]⟩, .int .i64 0, .int .i64 0, .int .u32 0, .bool false, .int .u64 0, .int .u64 0, .string ⟨#[]⟩, .string ⟨#[]⟩, .int .u32 0, .int .u32 0, .int .u32 0, .int .u32 0, .int .u32 0, tv, .string r.d.r] := s12.set 13 (.int .u32 0)
  have s14 : Lies _ b t #[.string ⟨#[]⟩, .int .i64 0, .int .i64 0, .int .u32 0, .bool false, .int .u64 0, .int .u64 0, .string ⟨#[]⟩, .string ⟨#[]⟩, .int .u32 0, .int .u32 0, .int .u32 0, .int .u32 0, .int .u32 0, .slice none 0 0, .string r.d.r] := s13.set 14 (.slice none 0 0)
  have s15 : Lies _ b t #[.string ⟨#[]⟩, .int .i64 0, .int .i64 0, .int .u32 0, .bool false, .int .u64 0, .int .u64 0, .string ⟨#[]⟩, .string ⟨#[]⟩, .int .u32 0, .int .u32 0, .int .u32 0, .int .u32 0, .int .u32 0, .slice none 0 0, .string ⟨#[]⟩] := s14.set 15 (.string ⟨#[]⟩)
  ⟨s15, grown_next (grown_next (grown_next (grown_next (grown_next (grown_next (grown_next (grown_next (grown_next (grown_next (grown_next (grown_next (grown_next (grown_next (grown_next (grown_one w b 0 _) (grown_one _ b 1 _)) (grown_one _ b 2 _)) (grown_one _ b 3 _)) (grown_one _ b 4 _)) (grown_one _ b 5 _)) (grown_one _ b 6 _)) (grown_one _ b 7 _)) (grown_one _ b 8 _)) (grown_one _ b 9 _)) (grown_one _ b 10 _)) (grown_one _ b 11 _)) (grown_one _ b 12 _)) (grown_one _ b 13 _)) (grown_one _ b 14 _)) (grown_one _ b 15 _)⟩
theorem infoRc : (Tryz.prog.info? 32).map (·.size) = some 16 := by kernel_rfl
theorem ret_r3 {fn : Func} {p u x : Tmp} (h : fn.results = #[.cell p 32, .tmp u, .tmp x]) (tmps : Array Value) (w : World) (g : Nat) (r : MR) (tv : Value) (hp : tmps.getD p undef = .pointer (some ⟨g, 0, none⟩))
    (hg : Lies w g 32 (cellsR r tv)) : (results fn tmps).run Tryz.prog w = .ok (.tuple #[recV r tv, tmps.getD u undef, tmps.getD x undef]) w := by
  rw [results_cell_tmp_tmp h, hp]
  simp only [asAddr, Sem.run_pure, Result.andThen_ok]
  rw [run_loadVar_row w g _ _ _ _ _ hg Tryz.underlying32 rfl infoRc]
  rfl
theorem srow_after {w W : World} {b : Nat} {tv : Value} {L : List ByteArray} (h : SRow w tv L) (hg : w.grownBy W (some b)) (hne : ∀ j, blk tv = some j → j ≠ b) : SRow W tv L :=
  h.far hg.size fun j hj => hg.block j (blk_ltC h j hj) fun e => hne j hj (by injection e)
/-- A record is handed back, the place behind, an error. -/
def RecR (w : World) (x : RRec) (e : Ending) (w' : World) : Prop := ∃ tv, e = .returned (.tuple #[recV x.r tv, .int .i64 (x.k : Int), .int .i64 (x.e : Int)]) ∧ SRow w' tv x.r.d.L ∧ (∃ A n cap, tv = Value.slice A n cap) ∧ (∀ j, blk tv = some j → w.heap.size ≤ j) ∧ Below w.heap.size w w'
set_option maxHeartbeats 1000000 in
theorem rcRead_any (S : ByteArray) (a : Int) (w : World) (hS : S.size ≤ 1099511627776) : Calls Tryz.prog 105 #[.string S, .int .i64 a] w (RecR w (rdR (bs S) a)) := by
  have HBg := Lib.hid fun wx => rcBegin_any S a wx hS
  obtain ⟨s0, e0⟩ : ∃ x, seekR (bs S) 0 a = x := ⟨_, rfl⟩
  obtain ⟨s1, e1⟩ : ∃ x, stN (bs S) s0.1 s0.2 = x := ⟨_, rfl⟩
  obtain ⟨s2, e2⟩ : ∃ x, stU (bs S) 2 s1.1 s1.2 = x := ⟨_, rfl⟩
  obtain ⟨s3, e3⟩ : ∃ x, stU (bs S) 2 s2.1 s2.2 = x := ⟨_, rfl⟩
  obtain ⟨s4, e4⟩ : ∃ x, stU (bs S) 4 s3.1 s3.2 = x := ⟨_, rfl⟩
  have hcq := chainQ e0 e1 e2 e3
  have HCR := Lib.hid fun t (ht : s4.1 = 0 → t = (rdQ (bs S) a).q.t) s5 (h5 : stData (bs S) t s4.1 s4.2 = s5) => chainR (t := t) hcq.1 (fun h => (hcq.2.2 h).2.2.2.1) e4 ht h5
  have HC := Lib.hid hcq
  have H1 := Lib.hid fun wx base c g gt (h : Cur wx base c g S s0.1 s0.2) r tv (ht : Lies wx gt 32 (cellsR r tv)) n2 n3 bg => e1 ▸ rcName_any (i := 0) (n0 := r.n) h ht rfl hS n2 n3 bg
  have H2 := Lib.hid fun wx base c g gt (h : Cur wx base c g S s1.1 s1.2) r tv (ht : Lies wx gt 32 (cellsR r tv)) n2 n3 bg => e2 ▸ rcShort_any (i := 1) (z := r.t) h ht rfl hS n2 n3 bg
  have H3 := Lib.hid fun wx base c g gt (h : Cur wx base c g S s2.1 s2.2) r tv (ht : Lies wx gt 32 (cellsR r tv)) n2 n3 bg => e3 ▸ rcShort_any (i := 2) (z := r.c) h ht rfl hS n2 n3 bg
  have H4 := Lib.hid fun wx base c g gt (h : Cur wx base c g S s3.1 s3.2) r tv (ht : Lies wx gt 32 (cellsR r tv)) n2 n3 bg => e4 ▸ rcLong_any (i := 3) (z := r.x) h ht rfl hS n2 n3 bg
  have H5 := Lib.hid fun wx base c g gt (h : Cur wx base c g S s4.1 s4.2) r tv (ht : Lies wx gt 32 (cellsR r tv)) htv n2 n3 bg => rcData_any h ht htv hS n2 n3 bg
  have hP1 : ∀ wx gt r tv f k, NmP gt 32 (cellsR r tv) 0 (bs S) f k wx → ∃ n', Lies wx gt 32 (cellsR { r with n := n' } tv) ∧ ((stN (bs S) f k).1 = 0 → n' = mkb (rdNm (bs S) k).s) := fun wx gt r tv f k h => h
  have hP2 : ∀ wx gt r tv f k, ShortP gt 32 (cellsR r tv) 1 (bs S) f k wx → ∃ v, Lies wx gt 32 (cellsR { r with t := v } tv) ∧ (f = 0 → v = num (numR (bs S) k 2).s) := fun wx gt r tv f k h => h
  have hP3 : ∀ wx gt r tv f k, ShortP gt 32 (cellsR r tv) 2 (bs S) f k wx → ∃ v, Lies wx gt 32 (cellsR { r with c := v } tv) ∧ (f = 0 → v = num (numR (bs S) k 2).s) := fun wx gt r tv f k h => h
  have hP4 : ∀ wx gt r tv f k, LongP gt 32 (cellsR r tv) 3 (bs S) f k wx → ∃ v : Nat, Lies wx gt 32 (cellsR { r with x := v } tv) ∧ (f = 0 → v = num (numR (bs S) k 4).s) := fun wx gt r tv f k h => h
  have HP1 := Lib.hid hP1
  have HP2 := Lib.hid hP2
  have HP3 := Lib.hid hP3
  have HP4 := Lib.hid hP4
  have E1 := Lib.hid e1
  have E2 : Hid (∀ h : s4.1 = 0, s2.1 = 0 ∧ s3.1 = 0) := Lib.hid fun h => by
    have h3 : s3.1 = 0 := by
      refine Classical.byContradiction fun hn => ?_
      rw [← e4, stU_yes hn] at h
      exact hn h
    exact ⟨(hcq.2.2 h3).2.2.1, h3⟩
  obtain ⟨r, hr⟩ : ∃ r, rdR (bs S) a = r := ⟨_, rfl⟩
  obtain ⟨qq, hqq⟩ : ∃ r, rdQ (bs S) a = r := ⟨_, rfl⟩
  rw [e0] at HBg
  rw [hr] at HCR ⊢
  rw [hqq] at HC HCR
  clear e0 e1 e2 e3 e4 hr hqq hcq hP1 hP2 hP3 hP4
  go_enter Tryz.func105, Tryz.ntmps105
  go_wp2_with fail
  obtain ⟨W0, hW0⟩ : ∃ W0, W0 = w.alloc (.cells (cellsR mr0 nilS) 32) := ⟨_, rfl⟩
  have hL0 : Lies W0 w.heap.size 32 (cellsR mr0 nilS) := by rw [hW0]; exact Lies.new w _ _
  have hB0 : Below w.heap.size w W0 := by rw [hW0]; exact (Below.refl _ w).alloc (Nat.le_refl _) _
  have hs0 : W0.heap.size = w.heap.size + 1 := by rw [hW0]; simp
  refine Calls.mono (R := BegC W0 S s0) (by rw [hW0]; exact HBg.out _) ?_
  rintro e w1 ⟨c, g, rfl, hc1, hb1⟩
  have n2 : w.heap.size ≠ c := by have := hc1.bc; omega
  have n3 : w.heap.size ≠ g := by have := hc1.bg; omega
  have hl1 := hL0.next hb1
  have hbb1 := hB0.trans (hb1.mono hB0.size)
  have HX1 := Lib.hid (H1.out w1 w.heap.size c g w.heap.size (hc1.lower (by omega)) mr0 nilS hl1 n2 n3 (Nat.le_refl _))
  have HB1 := Lib.hid hbb1
  clear hc1 hl1 hbb1 hL0 hB0 hb1 hW0 hs0
  go_wp2_with fail
  refine HX1.out.mono ?_
  rintro e w2 ⟨rfl, hc2, hf2, hp2⟩
  obtain ⟨n', hl2, hn'⟩ := HP1.out _ _ _ _ _ _ hp2
  have HX2 := Lib.hid (H2.out w2 w.heap.size c g w.heap.size hc2 _ _ hl2 n2 n3 (Nat.le_refl _))
  have HB2 := Lib.hid (HB1.out.trans hf2.below)
  have HN := Lib.hid hn'
  clear hc2 hf2 hp2 hl2 hn'
  go_wp2_with fail
  refine HX2.out.mono ?_
  rintro e w3 ⟨rfl, hc3, hf3, hp3⟩
  obtain ⟨v1, hl3, hv1⟩ := HP2.out _ _ _ _ _ _ hp3
  have HX3 := Lib.hid (H3.out w3 w.heap.size c g w.heap.size hc3 _ _ hl3 n2 n3 (Nat.le_refl _))
  have HB3 := Lib.hid (HB2.out.trans hf3.below)
  have HV1 := Lib.hid hv1
  clear hc3 hf3 hp3 hl3 hv1
  go_wp2_with fail
  refine HX3.out.mono ?_
  rintro e w4 ⟨rfl, hc4, hf4, hp4⟩
  obtain ⟨v2, hl4, hv2⟩ := HP3.out _ _ _ _ _ _ hp4
  have HX4 := Lib.hid (H4.out w4 w.heap.size c g w.heap.size hc4 _ _ hl4 n2 n3 (Nat.le_refl _))
  have HB4 := Lib.hid (HB3.out.trans hf4.below)
  have HV2 := Lib.hid hv2
  clear hc4 hf4 hp4 hl4 hv2
  go_wp2_with fail
  refine HX4.out.mono ?_
  rintro e w5 ⟨rfl, hc5, hf5, hp5⟩
  obtain ⟨v3, hl5, hv3⟩ := HP4.out _ _ _ _ _ _ hp5
  have hX5 := H5.out w5 w.heap.size c g w.heap.size hc5 _ _ hl5 ⟨_, _, _, rfl⟩ n2 n3 (Nat.le_refl _)
  have hb5 := HB4.out.trans hf5.below
  have HB5 := Lib.hid hb5
  have hz5 := hl5.lt
  have HV3 := Lib.hid hv3
  obtain ⟨s5, hs5⟩ : ∃ x, stData (bs S) v1 s4.1 s4.2 = x := ⟨_, rfl⟩
  have hX5' : Calls Tryz.prog 134 #[pp c, pp w.heap.size] w5 (PartR w5 w.heap.size c g w.heap.size S s5 (DtP w5.heap.size w.heap.size ⟨n', v1, v2, v3, md0⟩ s5.1 (datD (bs S) v1 s4.1 s4.2))) := by rw [← hs5]; exact hX5
  have HX5 := Lib.hid hX5'
  have hv1' : s4.1 = 0 → v1 = qq.q.t := fun h => by
    obtain ⟨f2, f3⟩ := E2.out h
    obtain ⟨_, f1, _, _, hq⟩ := HC.out.2.2 f3
    rw [hq, HV1.out f1]
  have HR := Lib.hid (HCR.out v1 hv1' s5 hs5)
  clear hc5 hf5 hp5 hl5 hv3 hX5 hX5' hs5 hv1' HCR H1 H2 H3 H4 H5 HP1 HP2 HP3 HP4 HX1 HX2 HX3 HX4
  go_wp2_with fail
  refine HX5.out.mono ?_
  rintro e w6 ⟨rfl, hc6, hf6, d', tv', hl6, ⟨A, n, cap, rfl⟩, hd⟩
  have HE := Lib.hid (rcEnd_any hc6)
  have HB6 := Lib.hid (HB5.out.trans hf6.below)
  have HL6 := Lib.hid hl6
  have HD := Lib.hid hd
  clear hc6 hf6 hl6 hd hb5 HX5
  by_cases h0 : s5.1 = 0
  · have hst : stE s5.1 s5.2 = (s5.2, 0) := by rw [h0]; rfl
    rw [hst] at HE
    have H0 := Lib.hid h0
    clear hst h0
    go_wp2_with fail
    refine HE.out.mono ?_
    rintro e w7 ⟨rfl, hb7⟩
    have hl7 := HL6.out.next hb7
    have HB7 := Lib.hid (HB6.out.trans (hb7.mono HB6.out.size))
    obtain ⟨x0, x1, x2, x3, x4, x5, x6, x7, x8, x9, x10, x11, x12, x13, x14, x15⟩ := lies16 hl7
    obtain ⟨⟨y4, y5, y6, y7, y8, y9⟩, ⟨y10, y11, y12, y13, y14, y15⟩, ⟨y0, y1, y2, y3⟩⟩ := freeR hl7
    have HL7 := Lib.hid hl7
    have HBN := Lib.hid hb7
    clear hl7 hb7
    go_wp2
    obtain ⟨hp, hg⟩ := putR16 (r' := ⟨n', v1, v2, v3, d'⟩) (tv' := .slice A n cap) HL7.out
    refine bodyPost_ret (ret_r3 rfl _ _ w.heap.size ⟨n', v1, v2, v3, d'⟩ (.slice A n cap) rfl hp) rfl ?_
    obtain ⟨f3, f4, hk, hrr⟩ := HR.out.2.2 H0.out
    obtain ⟨f0, f1, f2, hk2, hq⟩ := HC.out.2.2 f3
    have he : r.e = 0 := HR.out.1.trans H0.out
    obtain ⟨hd', hrow, hlo⟩ := HD.out H0.out
    have hn := HN.out (by rw [E1.out]; exact f1)
    have h1 := HV1.out f1
    have h2 := HV2.out f2
    have h3 := HV3.out f3
    have hreq : r.r = ⟨n', v1, v2, v3, d'⟩ := by rw [hrr, hq, hd', hn, h1, h2, h3]
    have hz : ∀ j, blk (Value.slice A n cap) = some j → w.heap.size < j := fun j hj => Nat.lt_of_lt_of_le hz5 (hlo j hj)
    have hS := srow_after (hrow.next HBN.out) hg (fun j hj => Nat.ne_of_gt (hz j hj))
    have hBe := HB7.out.trans (below_of_one hg (HB7.out.size) (Nat.le_refl _))
    rw [← hd'] at hS
    unfold RecR
    rw [hk, he, hreq]
    exact ⟨.slice A n cap, rfl, hS, ⟨_, _, _, rfl⟩, fun j hj => Nat.le_of_lt (hz j hj), hBe⟩
  · have hst : stE s5.1 s5.2 = (0, s5.1) := if_pos h0
    rw [hst] at HE
    have hne : (((s5.1 : Nat) : Int) != 0) = true := by rw [bne_iff_ne]; omega
    have H0 := Lib.hid h0
    clear hst h0
    go_wp2_with fail
    refine HE.out.mono ?_
    rintro e w7 ⟨rfl, hb7⟩
    have hl7 := HL6.out.next hb7
    have HB7 := Lib.hid (HB6.out.trans (hb7.mono HB6.out.size))
    obtain ⟨x0, x1, x2, x3, x4, x5, x6, x7, x8, x9, x10, x11, x12, x13, x14, x15⟩ := lies16 hl7
    obtain ⟨⟨y4, y5, y6, y7, y8, y9⟩, ⟨y10, y11, y12, y13, y14, y15⟩, ⟨y0, y1, y2, y3⟩⟩ := freeR hl7
    have HL7 := Lib.hid hl7
    clear hl7 hb7
    go_wp2
    obtain ⟨hp, hg⟩ := putZ16 HL7.out
    refine bodyPost_ret (ret_r3 rfl _ _ w.heap.size mr0 nilS rfl hp) rfl ?_
    obtain ⟨hk, hrr⟩ := HR.out.2.1 H0.out
    have hBe := HB7.out.trans (below_of_one hg (HB7.out.size) (Nat.le_refl _))
    unfold RecR
    rw [hk, hrr, HR.out.1]
    exact ⟨nilS, rfl, .inl ⟨_, rfl, rfl⟩, ⟨_, _, _, rfl⟩, (fun j hj => nomatch hj), hBe⟩
end Go.Proofs.YtadeflehdfmilaaGreat
