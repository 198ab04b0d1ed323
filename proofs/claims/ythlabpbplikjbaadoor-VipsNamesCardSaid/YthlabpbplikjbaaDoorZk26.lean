/-
  A pool in memory: its object, its row of places, its two maps; what a call may change of it; what its maps are asked. Conditions: as each theorem names them. Folding a host; what a reserved range takes of a pool's range: the walks of vips.fold, vips.run, vips.Check. Conditions: as each theorem names them. What may be a pool: the walk of vips.Check. Conditions: the laid tables' cells (Ground), the addresses' numbers such as their types bear.
-/
import Derived.Test.YthlabpbplikjbaaDoorZk18
import Derived.Test.YthlabpbplikjbaaDoorMp
import Derived.Test.YthlabpbplikjbaaDoorZk21
import Derived.Test.YthlabpbplikjbaaDoorZk25
import Derived.LaidEqlPtr
import Derived.Test.YthlabpbplikjbaaDoorZk4
namespace Go.Proofs.YthlabpbplikjbaaDoor
open Go.RowKit Go.Maps
set_option linter.unusedVariables false

/-- Where a pool lies: itself, its row of places, its two maps. -/
structure PB where
  g : Nat
  s : Nat
  a : Nat
  h : Nat
def stv (k : List UInt8) : Value := .string ⟨k.toArray⟩
def hdv (x : Hd) : Value := .agg #[.string x.1, .bool x.2.1, .int .u64 (x.2.2.1 : Int), .int .u64 (x.2.2.2 : Int)]
def entA (H : List Hd) : List (Value × Value) := H.map fun x => (stv (keyH x.1), av x.2)
def entH (H : List Hd) : List (Value × Value) := H.map fun x => (av x.2, hdv x)
def poolC (p : PoolD) (B : PB) : Array Value := #[.bool p.r.1, .int .u64 (p.r.2.1 : Int), .int .u64 (p.r.2.2 : Int), .int .i64 p.b, .slice (some ⟨B.s, 0, none⟩) p.sz p.sz, .int .i64 (p.room : Int), .map (some B.a), .map (some B.h), .pointer (some ⟨B.g, 0, none⟩)]
structure PoolAt (w : World) (B : PB) (p : PoolD) (H : List Hd) : Prop where
  obj : Lies w B.g 73 (poolC p B)
  row : Lies w B.s 4 (p.shut.map Value.bool).toArray
  adr : MapE Tryd.prog 39 w B.a (entA H)
  hld : MapE Tryd.prog 29 w B.h (entH H)
  ok : p.Ok
  wf : p.Wf H

/-- What a call on a pool may change: its two maps; and it may make blocks. -/
structure Kq (B : PB) (w w' : World) : Prop where
  os : w'.os = w.os
  tape : w'.tape = w.tape
  output : w'.output = w.output
  size : w.heap.size ≤ w'.heap.size
  block : ∀ k, k < w.heap.size → k ≠ B.a → k ≠ B.h → w'.heap[k]? = w.heap[k]?
section
variable {B B' : PB} {w w' w'' : World} {p p' : PoolD} {H H' : List Hd}
theorem Kq.refl (B : PB) (w : World) : Kq B w w := ⟨rfl, rfl, rfl, Nat.le_refl _, fun _ _ _ _ => rfl⟩
theorem Kq.trans (h : Kq B w w') (k : Kq B w' w'') : Kq B w w'' :=
  ⟨k.os.trans h.os, k.tape.trans h.tape, k.output.trans h.output, Nat.le_trans h.size k.size, fun i hi h1 h2 => (k.block i (Nat.lt_of_lt_of_le hi h.size) h1 h2).trans (h.block i hi h1 h2)⟩
theorem Kq.of_below (hb : Below w.heap.size w w') : Kq B w w' := ⟨hb.os, hb.tape, hb.output, hb.size, fun i hi _ _ => hb.block i hi⟩
theorem Kq.of_a (hg : w.grownBy w' (some B.a)) : Kq B w w' := ⟨hg.os, hg.tape, hg.output, hg.size, fun i hi h1 _ => hg.block i hi (fun e => h1 (by injection e))⟩
theorem Kq.of_h (hg : w.grownBy w' (some B.h)) : Kq B w w' := ⟨hg.os, hg.tape, hg.output, hg.size, fun i hi _ h2 => hg.block i hi (fun e => h2 (by injection e))⟩
theorem Kq.below {n : Nat} (h : Kq B w w') (hn : n ≤ w.heap.size) (h1 : n ≤ B.a) (h2 : n ≤ B.h) : Below n w w' :=
  ⟨h.os, h.tape, h.output, h.size, fun i hi => h.block i (Nat.lt_of_lt_of_le hi hn) (by omega) (by omega)⟩
theorem Kq.lies {g : Nat} {t : TypeId} {cs : Array Value} (h : Kq B w w') (hl : Lies w g t cs) (h1 : g ≠ B.a) (h2 : g ≠ B.h) : Lies w' g t cs := (h.block g hl.lt h1 h2).trans hl
theorem Kq.map {k : TypeId} {b : Nat} {E : List (Value × Value)} (h : Kq B w w') (hl : MapE Tryd.prog k w b E) (h1 : b ≠ B.a) (h2 : b ≠ B.h) : MapE Tryd.prog k w' b E := hl.same (h.block b hl.lt h1 h2)
theorem lies_ne_map {g b : Nat} {t k : TypeId} {cs : Array Value} {E : List (Value × Value)} (h : Lies w g t cs) (hm : MapE Tryd.prog k w b E) : g ≠ b := fun e => by
  obtain ⟨es, clock, hb, _⟩ := hm
  subst e
  have : some (Obj.cells cs t (0, 0)) = some (Obj.map es clock) := h.symm.trans hb
  cases this
theorem PoolAt.ga (h : PoolAt w B p H) : B.g ≠ B.a := lies_ne_map h.obj h.adr
theorem PoolAt.gh (h : PoolAt w B p H) : B.g ≠ B.h := lies_ne_map h.obj h.hld
theorem PoolAt.sa (h : PoolAt w B p H) : B.s ≠ B.a := lies_ne_map h.row h.adr
theorem PoolAt.sh (h : PoolAt w B p H) : B.s ≠ B.h := lies_ne_map h.row h.hld
theorem PoolAt.next (h : PoolAt w B p H) (hb : Below w.heap.size w w') : PoolAt w' B p H := ⟨h.obj.next hb, h.row.next hb, h.adr.next hb, h.hld.next hb, h.ok, h.wf⟩
theorem PoolAt.alloc (h : PoolAt w B p H) (o : Obj) : PoolAt (w.alloc o) B p H := h.next ((Below.refl _ _).alloc (Nat.le_refl _) o)
theorem PoolAt.drew (h : PoolAt w B p H) : PoolAt w.drew B p H := ⟨h.obj, h.row, h.adr.same rfl, h.hld.same rfl, h.ok, h.wf⟩
/-- Another pool stays as it was. -/
theorem PoolAt.other (h : PoolAt w B' p H) (k : Kq B w w') (h1 : B'.g ≠ B.a ∧ B'.g ≠ B.h) (h2 : B'.s ≠ B.a ∧ B'.s ≠ B.h) (h3 : B'.a ≠ B.a ∧ B'.a ≠ B.h) (h4 : B'.h ≠ B.a ∧ B'.h ≠ B.h) : PoolAt w' B' p H :=
  ⟨k.lies h.obj h1.1 h1.2, k.lies h.row h2.1 h2.2, k.map h.adr h3.1 h3.2, k.map h.hld h4.1 h4.2, h.ok, h.wf⟩
theorem PoolAt.lt (h : PoolAt w B p H) : B.g < w.heap.size ∧ B.s < w.heap.size ∧ B.a < w.heap.size ∧ B.h < w.heap.size := ⟨h.obj.lt, h.row.lt, h.adr.lt, h.hld.lt⟩
/-- The two maps are two. -/
theorem PoolAt.ah (h : PoolAt w B p H) (hn : H ≠ []) : B.a ≠ B.h := fun e => by
  obtain ⟨x, hx⟩ := List.exists_mem_of_ne_nil _ hn
  obtain ⟨es, c, hb, he⟩ := h.adr
  obtain ⟨es', c', hb', he'⟩ := h.hld
  rw [e, hb'] at hb
  injection hb with hb
  injection hb with hb
  subst hb
  have hm := he'.mem.2 (he.mem.1 (List.mem_map.2 ⟨x, hx, rfl⟩))
  obtain ⟨y, _, hy⟩ := List.mem_map.1 hm
  have := congrArg Prod.fst hy
  cases this
end

/-! ### Keys, and what the maps are asked -/
theorem skey : Keyed Tryd.prog 39 := string_keyed Tryd.underlying39
theorem fold_short {l : List UInt8} : (foldN l).length ≤ 254 := by
  unfold foldN
  split
  · rename_i h
    rw [fold_length]
    exact (chkN_iff.1 h).1
  · exact Nat.zero_le _
theorem keyS {k : List UInt8} (h : k.length ≤ maxLen) : keyOf Tryd.prog 39 (stv k) = some (.string k) := by
  have := Go.WideMaps.keyOf_string_mk (P := Tryd.prog) Tryd.underlying39 (s := ⟨k.toArray⟩) (show k.toArray.size ≤ maxLen by simpa using h)
  unfold stv
  simpa using this
theorem key_max (n : ByteArray) : (keyH n).length ≤ maxLen := Nat.le_trans fold_short (by decide)
theorem keyAv {a : Ad} (h : fitA a) : keyOf Tryd.prog 29 (av a) = some (kA a) := keyA h
theorem stv_inj {k l : List UInt8} (h : stv k = stv l) : k = l := by
  unfold stv at h
  injection h with h
  have := congrArg (fun s : ByteArray => s.data.toList) h
  simpa using this
theorem av_inj {a b : Ad} (h : av a = av b) : a = b := by
  obtain ⟨s, hi, lo⟩ := a
  obtain ⟨t, gi, go⟩ := b
  unfold av at h
  simp only [Value.agg.injEq, Array.mk.injEq, List.cons.injEq, Value.bool.injEq, Value.int.injEq, true_and, and_true] at h
  obtain ⟨h1, h2, h3⟩ := h
  simp only [Prod.mk.injEq]
  exact ⟨h1, by omega, by omega⟩
theorem PoolD.Wf.fitx {p : PoolD} {H : List Hd} (h : p.Wf H) (ho : p.Ok) {x : Hd} (hx : x ∈ H) : fitA x.2 := by
  obtain ⟨j, hj, e, _⟩ := h.plc x hx
  rw [e]
  exact pl_fit ho.fit hj
section
variable {B : PB} {w w' : World} {p : PoolD} {H : List Hd}
theorem PoolAt.name_yes (c : Bool) (h : PoolAt w B p H) {k : List UInt8} {x : Hd} (hf : findH H k = some x) :
    (Instr.lookup 70 (.map (some B.a)) (stv k) c).run Tryd.prog w = .ok (if c then .tuple #[av x.2, .bool true] else av x.2) w := by
  obtain ⟨hx, hk⟩ := findH_some hf
  subst hk
  exact h.adr.look_yes c skey Tryd.underlying70 (keyS (key_max x.1)) (List.mem_map.2 ⟨x, hx, rfl⟩)
theorem PoolAt.name_no (h : PoolAt w B p H) {k : List UInt8} (hk : k.length ≤ maxLen) (hf : findH H k = none) :
    (Instr.lookup 70 (.map (some B.a)) (stv k) true).run Tryd.prog w = .ok (.tuple #[av noA, .bool false]) w := by
  rw [findH_none] at hf
  refine h.adr.look_no true skey Tryd.underlying70 (Tryd.zeroValue29 w) (keyS hk) fun q hq => ?_
  obtain ⟨x, hx, rfl⟩ := List.mem_map.1 hq
  exact fun e => hf x hx (stv_inj e)
theorem PoolAt.addr_yes (h : PoolAt w B p H) {a : Ad} {x : Hd} (hf : findA H a = some x) :
    (Instr.lookup 71 (.map (some B.h)) (av a) true).run Tryd.prog w = .ok (.tuple #[hdv x, .bool true]) w := by
  obtain ⟨hx, hk⟩ := findA_some hf
  subst hk
  exact h.hld.look_yes true akey Tryd.underlying71 (keyAv (h.wf.fitx h.ok hx)) (List.mem_map.2 ⟨x, hx, rfl⟩)
theorem PoolAt.addr_no (h : PoolAt w B p H) {a : Ad} (ha : fitA a) (hf : findA H a = none) :
    (Instr.lookup 71 (.map (some B.h)) (av a) true).run Tryd.prog w = .ok (.tuple #[hdv (⟨#[]⟩, noA), .bool false]) w := by
  rw [findA_none] at hf
  refine h.hld.look_no true akey Tryd.underlying71 (Tryd.zeroValue61 w) (keyAv ha) fun q hq => ?_
  obtain ⟨x, hx, rfl⟩ := List.mem_map.1 hq
  exact fun e => hf x hx (av_inj e)
theorem PoolAt.held (h : PoolAt w B p H) (ty : TypeId) : (Builtin.len_ #[71] ty #[.map (some B.h)]).run Tryd.prog w = .ok (.int .i64 (H.length : Int)) w := by
  have := h.hld.len Tryd.underlying71 ty
  unfold entH at this
  rwa [List.length_map] at this

/-! ### Is it one that was made? -/
theorem infoP : (Tryd.prog.info? 73).isSome = true := by kernel_rfl
theorem eqlP (w : World) (a : Addr) : (binOp .eql 23 (.pointer (some a)) (.pointer (some a))).run Tryd.prog w = .ok (.bool true) w := by
  obtain ⟨j, hj⟩ := Option.isSome_iff_exists.1 infoP
  exact run_eql_ptr_same w a Tryd.underlying23 hj
theorem pmade_yes (h : PoolAt w B p H) :
    Calls Tryd.prog 25 #[.pointer (some ⟨B.g, 0, none⟩)] w fun e w' => e = .returned (.bool true) ∧ w = w' := by
  have hc : w.cell? ⟨B.g, 8, none⟩ = some (.pointer (some ⟨B.g, 0, none⟩)) := h.obj.cell 8
  have he := eqlP w ⟨B.g, 0, none⟩
  clear h
  go_enter Tryd.func25, Tryd.ntmps25
  go_wp2
  go_ret
  exact ⟨rfl, rfl⟩
end
end Go.Proofs.YthlabpbplikjbaaDoor
namespace Go.Proofs.YthlabpbplikjbaaDoor
open Go.RowKit Go.Maps
set_option linter.unusedVariables false

theorem Bx.tail {w wr : World} {x : Nat × TypeId × Array Value} {B : List (Nat × TypeId × Array Value)} (r : Bx w wr (x :: B)) : Bx w wr B := ⟨r.bel, fun y hy => r.all y (List.mem_cons_of_mem _ hy)⟩
theorem r7_cells {w' w0 : World} {g : Nat} {t : Bool} {nh nl : Nat} {nb : Int} {B : List (Nat × TypeId × Array Value)} (h : Bx w0 w' ((g, 31, #[.bool t, .int .u64 (nh : Int), .int .u64 (nl : Int), .int .i64 nb]) :: B)) :
    w'.cell? ⟨g, 0, none⟩ = some (.bool t) ∧ w'.cell? ⟨g, 1, none⟩ = some (.int .u64 (nh : Int)) ∧ w'.cell? ⟨g, 2, none⟩ = some (.int .u64 (nl : Int)) ∧ w'.cell? ⟨g, 3, none⟩ = some (.int .i64 nb) :=
  ⟨Lies.cell (h.at List.mem_cons_self) 0, Lies.cell (h.at List.mem_cons_self) 1, Lies.cell (h.at List.mem_cons_self) 2, Lies.cell (h.at List.mem_cons_self) 3⟩
def eK (k : List UInt8) : Nat := if k = [] then 2 else 0
theorem gVf {n : ByteArray} {k : List UInt8} (hs : n.size ≤ maxLen) (hk : keyH n = k) : Gives 31 #[.string n] (.tuple #[stv k, .int .i64 (eK k : Nat)]) := fun w => by
  have h1 := Lib.hid (gFold (s := n) (x := ⟨k.toArray⟩) hs (by rw [bs_mk]; exact hk))
  obtain ⟨F, hF⟩ : ∃ F : ByteArray, F = ⟨k.toArray⟩ := ⟨_, rfl⟩
  have hb : F.data.toList = k := by rw [hF]
  unfold stv
  rw [← hF] at h1 ⊢
  have HB := Lib.hid hb
  by_cases h0 : k = []
  · have e : eK k = 2 := if_pos h0
    rw [e]
    have c2 : F = ⟨#[]⟩ := by rw [hF, h0]
    subst c2
    clear h0 hb hk HB
    go_enter Tryd.func31, Tryd.ntmps31
    go_wp2_with fail
    refine (h1.out.go _).mono ?_
    rintro e w1 ⟨rfl, hb1⟩
    go_wp2
    go_ret2
    exact ⟨rfl, hb1⟩
  · have e : eK k = 0 := if_neg h0
    rw [e]
    have c4 : F.toList.isEmpty = false := by
      rw [bs_toList]
      have e2 : bs F = k := hb
      rw [e2]
      cases k
      · exact absurd rfl h0
      · rfl
    clear hF h0 hb hk HB
    go_enter Tryd.func31, Tryd.ntmps31
    go_wp2_with fail
    refine (h1.out.go _).mono ?_
    rintro e w1 ⟨rfl, hb1⟩
    go_wp2
    go_ret2
    exact ⟨rfl, hb1⟩

/-- At which place of r what is reserved begins, how many it takes; whether it takes any. -/
def runP (r : Ad) (b : Int) (s : Ad) (m : Int) : Nat × Nat × Bool :=
  if meetR r b s m = false then (0, 0, false) else if m ≤ b then (0, sizeR r b, true) else if (idxR r b s).2 = false then (0, 0, false) else ((idxR r b s).1, sizeR s m, true)

set_option maxHeartbeats 2000000 in
theorem gVr {r s : Ad} {b m : Int} {i l : Nat} {o : Bool} (hf : fitA r) (hg : fitA s) (h : runP r b s m = (i, l, o)) :
    GG 67 #[rv r b, rv s m] (.tuple #[.int .i64 (i : Int), .int .i64 (l : Int), .bool o]) := fun w hG => by
  obtain ⟨six, hi, lo⟩ := r
  obtain ⟨t, ah, al⟩ := s
  have HG := Lib.hid (fun wx (hb : Below w.heap.size w wx) => hG.next hb)
  have HS : Hid (Bx w ((w.alloc (.cells #[.bool six, .int .u64 (hi : Int), .int .u64 (lo : Int), .int .i64 b] 31)).alloc (.cells #[.bool t, .int .u64 (ah : Int), .int .u64 (al : Int), .int .i64 m] 31)) [(w.heap.size + 1, 31, #[.bool t, .int .u64 (ah : Int), .int .u64 (al : Int), .int .i64 m]), (w.heap.size, 31, #[.bool six, .int .u64 (hi : Int), .int .u64 (lo : Int), .int .i64 b])]) := Lib.hid (by
    have := ((Bx.start w).more 31 #[.bool six, .int .u64 (hi : Int), .int .u64 (lo : Int), .int .i64 b]).more 31 #[.bool t, .int .u64 (ah : Int), .int .u64 (al : Int), .int .i64 m]
    rw [World.size_alloc] at this
    exact this)
  obtain ⟨z, hz⟩ : ∃ z, sizeR (six, hi, lo) b = z := ⟨_, rfl⟩
  obtain ⟨y, hy⟩ : ∃ y, sizeR (t, ah, al) m = y := ⟨_, rfl⟩
  obtain ⟨⟨j, is⟩, hj⟩ : ∃ x, idxR (six, hi, lo) b (t, ah, al) = x := ⟨_, rfl⟩
  unfold runP at h
  rw [hj, hz, hy] at h
  have gs := Lib.hid (gSr (n := b) hf hz)
  have gt := Lib.hid (gSr (n := m) hg hy)
  have gi := Lib.hid (gIr (n := b) hf hg hj)
  have hrv : ∀ (a : Ad) (n : Int), rv a n = .agg #[.bool a.1, .int .u64 (a.2.1 : Int), .int .u64 (a.2.2 : Int), .int .i64 n] := fun _ _ => rfl
  rw [hrv, hrv]
  clear hrv hz hy hj hG
  cases hm : meetR (six, hi, lo) b (t, ah, al) m with
  | false =>
    rw [hm, if_pos rfl] at h
    simp only [Prod.mk.injEq] at h
    obtain ⟨rfl, rfl, rfl⟩ := h
    have gm := Lib.hid (gMr hf hg hm)
    clear hm hf hg gs gt gi
    go_enter Tryd.func67, Tryd.ntmps67
    go_wp2_with ((go_at_call 85; (with_reducible refine (gm.out.go _ (HG.out _ HS.out.bel)).mono ?_); rintro e w1 ⟨rfl, hb⟩; replace HS := Lib.hid (HS.out.next hb); clear hb))
    go_ret3
    exact ⟨rfl, HS.out.bel⟩
  | true =>
    rw [hm, if_neg (by decide)] at h
    have gm := Lib.hid (gMr hf hg hm)
    by_cases hmb : m ≤ b
    · rw [if_pos hmb] at h
      simp only [Prod.mk.injEq] at h
      obtain ⟨rfl, rfl, rfl⟩ := h
      have hd : decide (m ≤ b) = true := by simpa using hmb
      clear hm hf hg gt gi hmb
      go_enter Tryd.func67, Tryd.ntmps67
      go_wp2_with (first | (go_at_call 85; (with_reducible refine (gm.out.go _ (HG.out _ HS.out.bel)).mono ?_); rintro e w1 ⟨rfl, hb⟩; replace HS := Lib.hid (HS.out.next hb); clear hb; obtain ⟨r0, r1, r2, r3⟩ := r7_cells HS.out; obtain ⟨q0, q1, q2, q3⟩ := r7_cells HS.out.tail) | (go_at_call 66; (with_reducible refine (gs.out.go _ (HG.out _ HS.out.bel)).mono ?_); rintro e w2 ⟨rfl, hb⟩; replace HS := Lib.hid (HS.out.next hb); clear hb))
      go_ret3
      exact ⟨rfl, HS.out.bel⟩
    · rw [if_neg hmb] at h
      have hd : decide (m ≤ b) = false := by simpa using hmb
      cases is with
      | false =>
        rw [if_pos rfl] at h
        simp only [Prod.mk.injEq] at h
        obtain ⟨rfl, rfl, rfl⟩ := h
        clear hm hf hg gt gs hmb
        go_enter Tryd.func67, Tryd.ntmps67
        go_wp2_with (first | (go_at_call 85; (with_reducible refine (gm.out.go _ (HG.out _ HS.out.bel)).mono ?_); rintro e w1 ⟨rfl, hb⟩; replace HS := Lib.hid (HS.out.next hb); clear hb; obtain ⟨r0, r1, r2, r3⟩ := r7_cells HS.out; obtain ⟨q0, q1, q2, q3⟩ := r7_cells HS.out.tail) | (go_at_call 86; (with_reducible refine (gi.out.go _ (HG.out _ HS.out.bel)).mono ?_); rintro e w2 ⟨rfl, hb⟩; replace HS := Lib.hid (HS.out.next hb); clear hb))
        go_ret3
        exact ⟨rfl, HS.out.bel⟩
      | true =>
        rw [if_neg (by simp)] at h
        simp only [Prod.mk.injEq] at h
        obtain ⟨rfl, rfl, rfl⟩ := h
        clear hm hf hg gs hmb
        go_enter Tryd.func67, Tryd.ntmps67
        go_wp2_with (first | (go_at_call 85; (with_reducible refine (gm.out.go _ (HG.out _ HS.out.bel)).mono ?_); rintro e w1 ⟨rfl, hb⟩; replace HS := Lib.hid (HS.out.next hb); clear hb; obtain ⟨r0, r1, r2, r3⟩ := r7_cells HS.out; obtain ⟨q0, q1, q2, q3⟩ := r7_cells HS.out.tail) | (go_at_call 86; (with_reducible refine (gi.out.go _ (HG.out _ HS.out.bel)).mono ?_); rintro e w2 ⟨rfl, hb⟩; replace HS := Lib.hid (HS.out.next hb); clear hb r0 r1 r2 r3 q0 q1 q2 q3; obtain ⟨r0, r1, r2, r3⟩ := r7_cells HS.out) | (go_at_call 66; (with_reducible refine (gt.out.go _ (HG.out _ HS.out.bel)).mono ?_); rintro e w3 ⟨rfl, hb⟩; replace HS := Lib.hid (HS.out.next hb); clear hb))
        go_ret3
        exact ⟨rfl, HS.out.bel⟩
end Go.Proofs.YthlabpbplikjbaaDoor
namespace Go.Proofs.YthlabpbplikjbaaDoor
open Go.RowKit Go.Maps
set_option linter.unusedVariables false

theorem RgRow.below {w w' : World} {v : Value} {L : List (Ad × Int)} (h : RgRow w v L) (hb : Below w.heap.size w w') : RgRow w' v L := by
  obtain ⟨A, cap, h1, h2, h3, h4⟩ := h.shape
  refine ⟨⟨A, cap, h1, h2, h3, fun j hj => ?_⟩, h.fits⟩
  obtain ⟨g, o, e1, e2, e3⟩ := h4 j hj
  exact ⟨g, o, e1, Nat.lt_of_lt_of_le e2 hb.size, e3.below hb e2⟩
def allC (L : List (Ad × Int)) : Bool := L.all fun o => chkR o.1 o.2 == 0
def chkP (p : PoolD) : Nat := if chkR p.r p.b = 0 ∧ allC p.R = true then 0 else 2
def pv (p : PoolD) (v : Value) : Value := .agg #[.bool p.r.1, .int .u64 (p.r.2.1 : Int), .int .u64 (p.r.2.2 : Int), .int .i64 p.b, v]
theorem allC_take {L : List (Ad × Int)} {k : Nat} (h : k < L.length) : allC (L.take (k + 1)) = (allC (L.take k) && (chkR L[k].1 L[k].2 == 0)) := by
  unfold allC
  rw [List.take_succ_eq_append_getElem h, List.all_append]
  simp
theorem allC_no {L : List (Ad × Int)} {k : Nat} (h : k < L.length) (hc : chkR L[k].1 L[k].2 ≠ 0) : allC L = false := by
  unfold allC
  rw [List.all_eq_false]
  exact ⟨L[k], List.getElem_mem h, by simpa using hc⟩
/-- The relation of its loop. -/
def ChkRel (w : World) (L : List (Ad × Int)) (cs : Array Value) (v12 : Value) (wr : World) : Prop :=
  ∃ k : Nat, v12 = .int .i64 (k : Nat) ∧ k ≤ L.length ∧ allC (L.take k) = true ∧ Bx w wr [(w.heap.size, 34, cs)]
set_option maxHeartbeats 4000000 in
set_option maxRecDepth 100000 in
theorem vCheck_any {p : PoolD} {v : Value} {w : World} (hG : Ground w) (hf : fitA p.r) (hrow : RgRow w v p.R) :
    Calls Tryd.prog 19 #[pv p v] w fun e w' => e = .returned (.int .i64 (chkP p : Nat)) ∧ Below w.heap.size w w' := by
  obtain ⟨⟨six, hi, lo⟩, b, L⟩ := p
  simp only at hf hrow
  obtain ⟨A, cap, rfl, hlc, hcm, hat⟩ := hrow.shape
  have HAt := Lib.hid hat
  have HFit := Lib.hid hrow.fits
  have HF := Lib.hid hf
  have HG := Lib.hid (fun wx (hb : Below w.heap.size w wx) => hG.next hb)
  unfold maxLen at hcm
  show Calls _ _ #[.agg #[.bool six, .int .u64 (hi : Int), .int .u64 (lo : Int), .int .i64 b, .slice A L.length cap]] w fun e w' => e = .returned (.int .i64 (chkP ⟨(six, hi, lo), b, L⟩ : Nat)) ∧ Below w.heap.size w w'
  have HS := Lib.hid ((Bx.start w).more 34 #[.bool six, .int .u64 (hi : Int), .int .u64 (lo : Int), .int .i64 b, .slice A L.length cap])
  have gc := Lib.hid (gCr (n := b) hf rfl)
  by_cases h0 : chkR (six, hi, lo) b = 0
  · obtain ⟨cp, hE⟩ : ∃ cp, chkP ⟨(six, hi, lo), b, L⟩ = cp := ⟨_, rfl⟩
    have HP0 : Hid (allC L = true → cp = 0) := Lib.hid fun h => by rw [← hE]; unfold chkP; simp only [h0, h, and_self, if_true]
    have HP2 : Hid (allC L = false → cp = 2) := Lib.hid fun h => by rw [← hE]; unfold chkP; simp [h]
    rw [h0] at gc
    rw [hE]
    clear hat hrow hf hG h0 hE
    go_enter Tryd.func19, Tryd.ntmps19
    go_wp2_with ((go_at_call 38; (with_reducible refine (gc.out.go _ (HG.out _ HS.out.bel)).mono ?_); rintro e w1 ⟨rfl, hb⟩; replace HS := Lib.hid (HS.out.next hb); clear hb; have r4 : w1.cell? ⟨w.heap.size, 4, none⟩ = some (.slice A L.length cap) := Lies.cell (HS.out.at List.mem_cons_self) 4; have HR0 : Hid (ChkRel w L #[.bool six, .int .u64 (hi : Int), .int .u64 (lo : Int), .int .i64 b, .slice A L.length cap] (.int .i64 0) w1) := Lib.hid ⟨0, rfl, Nat.zero_le _, rfl, HS.out⟩))
    go_loopw [12] (fun v12 wr => ChkRel w L #[.bool six, .int .u64 (hi : Int), .int .u64 (lo : Int), .int .i64 b, .slice A L.length cap] v12 wr) (fun v12 _ => L.length - (intOf v12).toNat)
    case atStart => exact HR0.out
    case round =>
      clear HR0 HS
      obtain ⟨k, rfl, hk, hM, hS⟩ := hrel
      have HM := Lib.hid hM
      have HS := Lib.hid hS
      clear hM hS
      rcases Nat.lt_or_ge k L.length with hlt | hge
      · obtain ⟨g, off, rfl, hgw, hcell⟩ := HAt.out k hlt
        obtain ⟨⟨⟨s, ah, al⟩, m⟩, hx⟩ : ∃ x, L[k] = x := ⟨_, rfl⟩
        have hfx : fitA (s, ah, al) := by have := HFit.out L[k] (List.getElem_mem hlt); rw [hx] at this; exact this
        rw [hx] at hcell
        obtain ⟨c0, c1, c2, c3⟩ := hcell.below HS.out.bel hgw
        simp only at c0 c1 c2 c3
        have hkI : (k : Int) < (L.length : Int) := by omega
        have HKL : Hid (k + 1 ≤ L.length) := Lib.hid hlt
        obtain ⟨c, hc⟩ : ∃ c, chkR (s, ah, al) m = c := ⟨_, rfl⟩
        have gx := Lib.hid (gCr (n := m) hfx hc)
        have HSm := Lib.hid (HS.out.more 31 #[.bool s, .int .u64 (ah : Int), .int .u64 (al : Int), .int .i64 m])
        by_cases hc0 : c = 0
        · have HN : Hid (allC (L.take (k + 1)) = true) := Lib.hid (by rw [allC_take hlt, HM.out, hx]; simp [hc, hc0])
          subst hc0
          clear hx hfx hc hcell HM
          go_wp2_with ((go_at_call 38; (with_reducible refine (gx.out.go _ (HG.out _ HSm.out.bel)).mono ?_); rintro e w1 ⟨rfl, hb⟩; replace HSm := Lib.hid (HSm.out.next hb); clear hb))
          go_roundw
          case rel => exact ⟨k + 1, by go_num, HKL.out, HN.out, HSm.out.tail⟩
          case measure => simp [intOf]; omega
        · have HN : Hid (allC L = false) := Lib.hid (allC_no hlt (by rw [hx]; simp only [hc]; exact hc0))
          have hcI : ((c : Int) == 0) = false := by simpa using hc0
          have hcJ : (!((c : Int) == 0)) = true := by simpa using hc0
          have hcK : ¬ c = 0 := hc0
          clear hx hfx hc hcell HM hc0
          go_wp2_with ((go_at_call 38; (with_reducible refine (gx.out.go _ (HG.out _ HSm.out.bel)).mono ?_); rintro e w1 ⟨rfl, hb⟩; replace HSm := Lib.hid (HSm.out.next hb); clear hb))
          obtain rfl := HP2.out HN.out
          go_ret
          exact ⟨rfl, HSm.out.bel⟩
      · obtain rfl : k = L.length := by omega
        have HN : Hid (allC L = true) := Lib.hid (by have := HM.out; rwa [List.take_of_length_le (Nat.le_refl _)] at this)
        clear HM
        go_wp2
        obtain rfl := HP0.out HN.out
        go_ret
        exact ⟨rfl, HS.out.bel⟩
  · have hE : chkP ⟨(six, hi, lo), b, L⟩ = 2 := by unfold chkP; simp only [h0, false_and, if_false]
    obtain ⟨c, hc⟩ : ∃ c, chkR (six, hi, lo) b = c := ⟨_, rfl⟩
    rw [hc] at gc h0
    rw [hE]
    have hcI : ((c : Int) == 0) = false := by simpa using h0
    clear hat hrow hf hG hE hc
    go_enter Tryd.func19, Tryd.ntmps19
    go_wp2_with ((go_at_call 38; (with_reducible refine (gc.out.go _ (HG.out _ HS.out.bel)).mono ?_); rintro e w1 ⟨rfl, hb⟩; replace HS := Lib.hid (HS.out.next hb); clear hb))
    go_ret
    exact ⟨rfl, HS.out.bel⟩
end Go.Proofs.YthlabpbplikjbaaDoor
