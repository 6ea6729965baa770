/- A7 A8 -/
import Derived.Test.YthdlpeejmmobmaaGreatYC29
import Derived.Deep.RegionHeld3
import Derived.Deep.DeepCutAuto
import Derived.Test.YthdlpeejmmobmaaGreatYC01

namespace Go.Proofs.YthdlpeejmmobmaaGreat
open Go.RowKit Go.Maps
set_option maxRecDepth 100000
set_option linter.unusedVariables false
theorem splice_app (A B vs : List Value) (k n : Nat) (h : n = A.length + k) : splice (A ++ B) n vs = A ++ splice B k vs := by
 subst h
 unfold splice
 rw [List.take_length_add_append, Nat.add_assoc, List.drop_length_add_append, List.append_assoc]
theorem zero138 : (Tryz.prog.info? 138).bind (·.zero) = some (.agg (Mk.Al.spotL 0 (Mk.zers 40) false 0).toArray) := by kernel_rfl
theorem built_spot (N : Int) {ys : List Int} (hl : ys.length = 40) (r : Bool) (i : Int) : Tryz.prog.built 138 [(0, Mk.groupV N ys), (1, .int .i64 (Mk.Al.rI r)), (2, .int .i64 i)] = some (Mk.Al.spotA N ys r i) := by
 obtain ⟨it, hit, hz⟩ := Option.bind_eq_some_iff.1 zero138
 have hp : List.mapM (fun f : Field => Option.map (fun i => (f.offset, i.size)) (Tryz.prog.info? f.type))
    [{ name := "header", type := 64, offset := 0, embedded := false, tag := "", pkgPath := "bollard/alloc",
        byteOffset := 0 },
     { name := "row", type := 134, offset := 41, embedded := false, tag := "", pkgPath := "bollard/alloc",
       byteOffset := 48 },
     { name := "bit", type := 3, offset := 42, embedded := false, tag := "", pkgPath := "bollard/alloc",
       byteOffset := 56 }] = some [(0, 41), (41, 1), (42, 1)] := by kernel_rfl
 unfold Program.built
 rw [hit, Tryz.underlying138]
 simp only [hz, hp]
 show Instr.fill _ (Mk.Al.spotL 0 (Mk.zers 40) false 0).toArray _ = _
 have hgl : (.int .i64 N :: ys.map (Value.int .u8)).length = 41 := by simp [hl]
 have hz0 : (Mk.Al.spotL 0 (Mk.zers 40) false 0).length = 43 := by simp [Mk.Al.spotL, Mk.zers_len]
 rw [fill_step _ _ (.int .i64 N :: ys.map (Value.int .u8)) 0 0 41 _ _ rfl rfl hgl (by rw [hz0]; decide)]
 have e1 : splice (Mk.Al.spotL 0 (Mk.zers 40) false 0) 0 (.int .i64 N :: ys.map (Value.int .u8)) = (.int .i64 N :: ys.map (Value.int .u8)) ++ [.int .i64 0, .int .i64 0] := by
  unfold splice
  rw [hgl]
  simp [Mk.Al.spotL, Mk.zers, Mk.Al.rI]
 rw [e1, fill_step _ _ [.int .i64 (Mk.Al.rI r)] 1 41 1 _ _ rfl rfl rfl (by simp [hl])]
 have e2 : splice ((.int .i64 N :: ys.map (Value.int .u8)) ++ [.int .i64 0, .int .i64 0]) 41 [.int .i64 (Mk.Al.rI r)] = (.int .i64 N :: ys.map (Value.int .u8)) ++ [.int .i64 (Mk.Al.rI r), .int .i64 0] := by
  rw [splice_app _ _ _ 0 41 (by rw [hgl])]
  rfl
 rw [e2, fill_step _ _ [.int .i64 i] 2 42 1 _ _ rfl rfl rfl (by simp [hl])]
 have e3 : splice ((.int .i64 N :: ys.map (Value.int .u8)) ++ [.int .i64 (Mk.Al.rI r), .int .i64 0]) 42 [.int .i64 i] = Mk.Al.spotL N ys r i := by
  rw [splice_app _ _ _ 1 42 (by rw [hgl])]
  rfl
 rw [e3]
 rfl
theorem build_spot (N : Int) {ys : List Int} (hl : ys.length = 40) (r : Bool) (i : Int) (w : World) : (Instr.build 138 #[(0, Mk.groupV N ys), (1, .int .i64 (Mk.Al.rI r)), (2, .int .i64 i)]).run Tryz.prog w = .ok (Mk.Al.spotV N ys r i) w :=
 run_build w 138 _ _ (built_spot N hl r i)
theorem zeroSpot : Mk.Al.spotA 0 (Mk.zers 40) false 0 = #[.int .i64 0, .int .u8 0, .int .u8 0, .int .u8 0, .int .u8 0, .int .u8 0, .int .u8 0, .int .u8 0, .int .u8 0, .int .u8 0, .int .u8 0, .int .u8 0, .int .u8 0, .int .u8 0, .int .u8 0, .int .u8 0, .int .u8 0, .int .u8 0, .int .u8 0, .int .u8 0, .int .u8 0, .int .u8 0, .int .u8 0, .int .u8 0, .int .u8 0, .int .u8 0, .int .u8 0, .int .u8 0, .int .u8 0, .int .u8 0, .int .u8 0, .int .u8 0, .int .u8 0, .int .u8 0, .int .u8 0, .int .u8 0, .int .u8 0, .int .u8 0, .int .u8 0, .int .u8 0, .int .u8 0, .int .i64 0, .int .i64 0] := by kernel_rfl
theorem yieldsIf_build {P : Program} {ops : Array Oper} {S : World → Prop} {op : Oper} {a : Act} (hw : Region.wanted op (yielded ops a.tmps) = true) (t : TypeId) (parts : Array (Nat × Operand)) (ho : op.op = .build t parts) (vs : Array Value)
  (hc : P.built t (parts.map fun (i, x) => (i, a.eval x)).toList = some vs) : YieldsIf P ops S op (.agg vs) a :=
 .inl ⟨hw, fun w _ => by
  unfold execOp
  simp only [ho, Sem.run_bind, run_build w t _ vs hc, Result.andThen_ok]
  rfl⟩
theorem range_row {w : World} {b : Nat} {cs : Array Value} {t : TypeId} {fr : Nat × Nat} (h : w.heap[b]? = some (.cells cs t fr)) : w.rangeAt b 0 cs.toList := by
 intro j v hj
 rw [Nat.zero_add]
 have hj2 : cs[j]? = some v := by simpa using hj
 simp [World.cell?, h, hj2]
theorem there_row {w : World} {b n : Nat} {cs : Array Value} {t : TypeId} (h : w.heap[b]? = some (.cells cs t (0, 0))) (hn : n ≤ cs.size) : w.there b 0 n := by
 intro j hj
 rw [Nat.zero_add]
 have hj2 : j < cs.size := by omega
 exact ⟨by simp [World.cell?, h, hj2], by simp [World.frozen?, h]⟩
theorem results_ctt {P : Program} {fn : Func} {a p u : Tmp} {ty : TypeId} (h : fn.results = #[.cell p ty, .tmp a, .tmp u]) (tmps : Array Value) (w : World) (g : Nat) (t : TypeId) (cs : Array Value) (fr : Nat × Nat) (d : TypeDesc)
  (hp : tmps.getD p undef = .pointer (some ⟨g, 0, none⟩)) (hg : w.heap[g]? = some (.cells cs t fr))
  (hu : P.underlying ty = some d) (hd : (match d with | .struct _ | .array _ _ => true | _ => false) = true) (hi : (P.info? ty).map (·.size) = some cs.size) :
  (results fn tmps).run P w = .ok (.tuple #[.agg cs, tmps.getD a undef, tmps.getD u undef]) w := by
 have e : (results fn tmps).run P w = ((asAddr (tmps.getD p undef)).run P w).andThen fun x w₁ => ((loadVar ty x).run P w₁).andThen fun v w₂ => .ok (.tuple #[v, tmps.getD a undef, tmps.getD u undef]) w₂ := by
  simp only [results, h]
  simp [Sem.run_bind, Result.andThen]
 rw [e, hp]
 simp [asAddr, run_loadVar_row w g t ty cs fr d hg hu hd hi]
section
variable [Inhabited Past] {w w' : World} {v : Nat} {F : Nat → Prop} {N : Nat} {I : Nat → List Int} {l c G B Q : Nat}
open Mk.Al in
set_option maxHeartbeats 4000000 in
theorem look_ok (h : Vol w v F N I l c) (hg : Geo G B Q N) {n : Nat} (hn : n < G) {ys : List Int} (hI : I (n * B + 1) = Mk.groupL (n : Int) ys) (hl : ys.length = 40) (hy : Mk.Num.Byt ys) (hc : c < 4611686018427387904) (r : Bool) (i : Nat) (hi : i / 8 < rLen r) (x : Int)
  (hpl : ∀ w, Calls Tryz.prog 137 #[.int .i64 (rI r), Mk.geomV G B Q, .int .i64 x] w fun e w' => e = .returned (.tuple #[.int .i64 (n : Int), .int .i64 (i : Int)]) ∧ Below w.heap.size w w') :
  Calls Tryz.prog 70 #[.pointer (some ⟨v, 0, none⟩), Mk.geomV G B Q, .int .i64 (rI r), .int .i64 x] w fun e w' => e = .returned (.tuple #[spotV n ys r i, .bool (Mk.Bit.on (rowOf r ys) i), .int .i64 0]) ∧ ∃ F', Vol w' v F' N I l (c + 1) ∧ Pt.Stp F F' w w' := by
 have hfit := hg.fit
 obtain ⟨W, hW⟩ : ∃ W, (w.alloc (Mk.geomO G B Q)).alloc (spotO 0 (Mk.zers 40) false 0) = W := ⟨_, rfl⟩
 have hb : Below w.heap.size w W := by rw [← hW]; exact ((Below.refl _ _).alloc (Nat.le_refl _) _).alloc (by simp) _
 have hx : W.heap[w.heap.size]? = some (Mk.geomO G B Q) := by rw [← hW]; exact at_old (at_new rfl)
 have hs : W.heap[w.heap.size + 1]? = some (spotO 0 (Mk.zers 40) false 0) := by rw [← hW]; exact at_new (by simp)
 have c0 := (g3_of hx).c0
 have c1 := (g3_of hx).c1
 have c2 := (g3_of hx).c2
 have hv := h.later hb
 have hlt := h.lt
 have hsz : W.heap.size = w.heap.size + 2 := by rw [← hW]; simp
 have hrl : rLen r ≤ 32 ∧ rAt r + rLen r ≤ 40 := by unfold rAt rLen; cases r <;> simp
 dsimp only [spotO] at hW
 rw [zeroSpot] at hW
 go_enter Tryz.func70, Tryz.ntmps70
 go_wp2_with fail
 refine Mk.grew_at (hpl _) ?_
 intro w1 hb1
 have hx1 := (hb1.block _ (Array.getElem?_eq_some_iff.1 hx).1).trans hx
 have hs1 := (hb1.block _ (Array.getElem?_eq_some_iff.1 hs).1).trans hs
 have c0 := (g3_of hx1).c0
 have c1 := (g3_of hx1).c1
 have c2 := (g3_of hx1).c2
 have hhd := header_ok (hv.later hb1) hg hn hI hl hc
 dsimp only
 go_wp2_with fail
 refine Calls.mono hhd ?_
 rintro e w2 ⟨rfl, F', hv2, hst⟩
 have hs2 : w2.heap[w.heap.size + 1]? = some (spotO 0 (Mk.zers 40) false 0) := (hst.fr.block _ (by have := hb1.size; omega) (fun hf => by have := hlt _ hf; omega)).trans hs1
 have hsz2 : w.heap.size + 2 ≤ w2.heap.size := by have := hb1.size; have := hst.fr.size; omega
 obtain ⟨W5, hW5⟩ : ∃ W5, w2.alloc (Mk.groupO 0 (Mk.zers 40)) = W5 := ⟨_, rfl⟩
 have hn5 : W5.heap[w2.heap.size]? = some (Mk.groupO 0 (Mk.zers 40)) := by rw [← hW5]; exact at_new rfl
 obtain ⟨W6, hW6⟩ : ∃ W6, W5.setRow w2.heap.size (Mk.groupA n ys) = W6 := ⟨_, rfl⟩
 have hn6 : W6.heap[w2.heap.size]? = some (Mk.groupO n ys) := by rw [← hW6]; exact setRow_heap _ _ _ _ _ _ hn5
 have hb6 : Below w2.heap.size w2 W6 := by
  rw [← hW6]
  exact below_setRow (by rw [← hW5]; exact Mk.grew_alloc _ _) (Nat.le_refl _) _
 have hs6 := (hb6.block _ (by omega)).trans hs2
 have HV : Hid (Vol w2 v F' N I l (c + 1) ∧ Pt.Stp F F' w1 w2 ∧ Below w.heap.size w w1 ∧ Below w2.heap.size w2 W6 ∧ (∀ k, F k → k < w.heap.size) ∧ w.heap.size + 2 ≤ w2.heap.size ∧ W.heap.size = w.heap.size + 2 ∧ W.heap.size ≤ w1.heap.size) := ⟨hv2, hst, hb.trans (hb1.mono hb.size), hb6, hlt, hsz2, hsz, hb1.size⟩
 have hsg := Mk.groupA_size (n : Int) ys hl
 have hsg0 := Mk.groupA_size 0 (Mk.zers 40) (Mk.zers_len 40)
 dsimp only [Mk.groupO] at hW5
 rw [Mk.zero38] at hW5
 clear hv2 hst hb hb1 hb6 hlt hsz2 hsz h hv hhd hpl hx hx1 hs hs1 hs2 hW hI
 dsimp only
 go_upto_region 5 with (first
  | (refine wpList_store_row rfl 64 _ _ rfl w2.heap.size (Mk.groupA n ys) rfl rfl 64 _ hn5 (Mk.info38 n ys hl) (hsg0.trans hsg.symm) (Mk.group_one n ys) ?_; rw [hW6]))
 go_cut [9, 10] (fun v9 v10 wx => v9 = .bool (Mk.Bit.on (rowOf r ys) i) ∧ v10 = .int .i64 0 ∧ wx.heap[w.heap.size + 1]? = some (spotO n ys r i) ∧ Below w.heap.size W6 wx ∧ ∀ k, k ≠ w.heap.size + 1 → k < W6.heap.size → wx.heap[k]? = W6.heap[k]?)
 case first =>
  have hbi6 := Mk.group_bi hn6 hy (rAt r) (rLen r) (by omega) hl
  have hha := fun w3 (hb : Below W6.heap.size W6 w3) => Mk.has_nat (some ⟨w2.heap.size, rAt r + 1, none⟩) (rLen r) (rLen r) (rowOf r ys) i w3 (hbi6.kept hb) (by omega)
  have hof := fun w1 => Mk.Al.of_ok r w2.heap.size 0 w1
  simp only [Nat.zero_add] at hof
  have hbld := fun w => build_spot (n : Int) hl r (i : Int) w
  have hrg : W6.rangeAt w2.heap.size 0 (Mk.groupA n ys).toList := range_row hn6
  have hth : W6.there (w.heap.size + 1) 0 43 := there_row hs6 (by rw [spot_size _ (Mk.zers_len 40)]; decide)
  have h1 : ∀ u ∈ spotL n ys r i, u.oneCell' = true := fun u hu => by
   have := spot_one (n : Int) ys r (i : Int)
   exact (Array.all_eq_true_iff_forall_mem.1 this) u (by simpa [spotA] using hu)
  have hi138 : (Tryz.prog.info? 138).map (·.size) = some (spotL n ys r i).length := (info138 (n : Int) hl r (i : Int)).trans (by simp [spotA])
  have hi64 : (Tryz.prog.info? 64).map (·.size) = some (Mk.groupA n ys).toList.length := (Mk.info38 (n : Int) ys hl).trans (by simp)
  have hsl : (spotL n ys r i).length = 43 := by have := spot_size (n : Int) hl r (i : Int); simpa [spotA] using this
  have hu64 := Tryz.underlying64
  have hbld2 : ∀ w, (Instr.build 138 #[(0, .agg (Mk.groupA n ys)), (1, .int .i64 (rI r)), (2, .int .i64 (i : Int))]).run Tryz.prog w = .ok (.agg (spotL n ys r i).toArray) w := hbld
  clear hbld
  have hw2 : w2.heap.size ≠ w.heap.size + 1 := by have := HV.out.2.2.2.2.2.1; omega
  have HK : Hid ((Mk.groupA n ys).toList.length = 41) := by show (Mk.groupA n ys).toList.length = 41; simp [hsg]
  refine wp_region_held_drew (S := fun w' => w'.rangeAt w2.heap.size 0 (Mk.groupA n ys).toList) (by kernel_rfl) hrg (fun hHeld => ?_)
  refine wpAnyH_take (i := 0) (oi := ⟨some 33, .load 64 (.tmp 13), 64, "row.go:146", #[], none⟩) (v := .agg (Mk.groupA n ys)) rfl (by kernel_rfl) (by kernel_rfl) (by kernel_rfl) (fun _ _ _ h => h) (yieldsIf_load_mid (by rfl) 64 _ rfl w2.heap.size 0 rfl (Mk.groupA n ys).toList _ (fun _ hS => hS) Tryz.underlying64 rfl hi64) hHeld ?_
  simp only [Act.put, sA, sZ, sS]
  refine tk 1 ⟨some 34, .move (.tmp 2), 134, "row.go:146", #[], none⟩ ?_ ?_ hHeld ?_
  rotate_left
  ·(intro w hSw; (try dsimp only at hSw); go_simp; try (with_reducible rfl))
  simp only [Act.put, sA, sZ, sS]
  refine tk 2 ⟨some 35, .move (.tmp 12), 3, "row.go:146", #[], none⟩ ?_ ?_ hHeld ?_
  rotate_left
  ·(intro w hSw; (try dsimp only at hSw); go_simp; try (with_reducible rfl))
  simp only [Act.put, sA, sZ, sS]
  refine wpAnyH_take (i := 3) (oi := ⟨some 36, .build 138 #[(0, .tmp 33), (1, .tmp 34), (2, .tmp 35)], 138, "row.go:146", #[⟨0, .data⟩, ⟨1, .data⟩, ⟨2, .data⟩], none⟩) (v := .agg (spotL n ys r i).toArray) rfl (by kernel_rfl) (by kernel_rfl) (by kernel_rfl) (fun _ _ _ h => h) (yieldsIf_build (by rfl) 138 _ rfl _ (by refine Eq.trans (congrArg (Tryz.prog.built 138) (?_ : _ = [(0, Mk.groupV n ys), (1, .int .i64 (rI r)), (2, .int .i64 (i : Int))])) (built_spot (n : Int) hl r (i : Int)); go_simp)) hHeld ?_
  simp only [Act.put, sA, sZ, sS]
  refine tk 4 ⟨some 37, .move (.tmp 2), 134, "row.go:146", #[], none⟩ ?_ ?_ hHeld ?_
  rotate_left
  ·(intro w hSw; (try dsimp only at hSw); go_simp; try (with_reducible rfl))
  simp only [Act.put, sA, sZ, sS]
  refine tk 6 ⟨some 39, .move (.tmp 12), 3, "row.go:146", #[], none⟩ ?_ ?_ hHeld ?_
  rotate_left
  ·(intro w hSw; (try dsimp only at hSw); go_simp; try (with_reducible rfl))
  simp only [Act.put, sA, sZ, sS]
  refine wpAnyH_ready (rs := [5]) (by kernel_rfl) (by simp) ?_
  refine AllReadyH.cons (o := ⟨some 38, .call { callee := .value (.func 132), args := #[.tmp 37, .tmp 13], argTypes := #[134, 224] }, 42, "row.go:146", #[⟨4, .data⟩], none⟩) rfl (fun K hK => ?_) AllReadyH.nil
  rw [if_pos (by rfl)]
  go_simp
  refine same_at (hof _) ?_
  dsimp only
  refine hK.out _ _ hHeld (fun hHeld => ?_)
  clear hK K
  try simp only [Act.put, sA, sZ, sS]
  refine wpAnyH_ready (rs := [7]) (by kernel_rfl) (by simp) ?_
  refine AllReadyH.cons (o := ⟨some 40, .call { callee := .value (.func 138), args := #[.tmp 38, .tmp 39], argTypes := #[42, 3] }, 4, "row.go:146", #[⟨5, .data⟩, ⟨6, .data⟩, ⟨5, .chain⟩], none⟩) rfl (fun K hK => ?_) AllReadyH.nil
  rw [if_pos (by rfl)]
  go_simp
  refine Calls.mono (hha _ (Below.refl _ _).drew) ?_
  rintro e w3 ⟨rfl, k, rfl⟩
  dsimp only
  have hrg3 : (W6.drew.drewN k).rangeAt w2.heap.size 0 (Mk.groupA n ys).toList := range_row (((below_drewN (Below.refl W6.drew.heap.size W6.drew) k).block _ (Array.getElem?_eq_some_iff.1 hn6).1).trans hn6)
  have hs7 : (W6.drew.drewN k).heap[w.heap.size + 1]? = some (spotO 0 (Mk.zers 40) false 0) := ((below_drewN (Below.refl W6.drew.heap.size W6.drew) k).block _ (Array.getElem?_eq_some_iff.1 hs6).1).trans hs6
  refine hK.out _ _ hrg3 (fun hHeld => ?_)
  clear hK K
  try simp only [Act.put, sA, sZ, sS]
  refine wpAnyH_ready (rs := [8]) (by kernel_rfl) (by simp) ?_
  refine AllReadyH.cons (o := ⟨none, .store 138 (.tmp 8) (.tmp 36), 0, "row.go:146", #[⟨3, .data⟩, ⟨7, .chain⟩, ⟨0, .phase⟩, ⟨1, .phase⟩, ⟨2, .phase⟩, ⟨3, .phase⟩, { on := 4, ground := Ground.textOnly Departure.lateStores }, { on := 5, ground := Ground.textOnly Departure.lateStoresUnsure }, { on := 6, ground := Ground.textOnly Departure.lateStores }, { on := 7, ground := Ground.textOnly Departure.lateStoresUnsure }], none⟩) rfl (fun K hK => ?_) AllReadyH.nil
  rw [if_pos (by rfl)]
  refine wp_store_row 138 _ _ rfl (w.heap.size + 1) (spotL n ys r i).toArray rfl rfl 138 _ hs7 (info138 (n : Int) hl r (i : Int)) ((spot_size 0 (Mk.zers_len 40) false 0).trans (spot_size (n : Int) hl r (i : Int)).symm) (spot_one (n : Int) ys r (i : Int)) ?_
  refine hK.out _ _ (range_row (((setRow_other _ _ _ _ hw2).trans ((below_drewN (Below.refl W6.drew.heap.size W6.drew) k).block _ (Array.getElem?_eq_some_iff.1 hn6).1)).trans hn6)) (fun hHeld => ?_)
  clear hK K
  simp only [Act.put]
  refine tk 9 ⟨some 9, .assign (.tmp 40), 4, "row.go:146", #[⟨7, .data⟩, ⟨8, .chain⟩, ⟨0, .phase⟩, ⟨1, .phase⟩, ⟨2, .phase⟩, ⟨3, .phase⟩, ⟨4, .phase⟩, ⟨5, .phase⟩, ⟨6, .phase⟩, ⟨7, .phase⟩, ⟨8, .phase⟩], none⟩ ?_ ?_ hHeld ?_
  rotate_left
  ·(intro w hSw; (try dsimp only at hSw); go_simp; try (with_reducible rfl))
  simp only [Act.put, sA, sZ, sS]
  refine tk 10 ⟨some 10, .assign (.const (.int .i64 0)), 36, "row.go:146", #[⟨9, .chain⟩, ⟨0, .phase⟩, ⟨1, .phase⟩, ⟨2, .phase⟩, ⟨3, .phase⟩, ⟨4, .phase⟩, ⟨5, .phase⟩, ⟨6, .phase⟩, ⟨7, .phase⟩, ⟨8, .phase⟩, ⟨9, .phase⟩], none⟩ ?_ ?_ hHeld ?_
  rotate_left
  ·(intro w hSw; (try dsimp only at hSw); go_simp; try (with_reducible rfl))
  simp only [Act.put, sA, sZ, sS]
  refine wpAnyH_done (by kernel_rfl) ?_ _

  go_wp2_with fail
  go_meet
  exact ⟨rfl, rfl, setRow_heap _ _ _ _ 138 _ hs7, below_setRow (below_drewN (Below.refl w.heap.size W6) _) (Nat.le_succ _) _, fun j hj hlt => (setRow_other _ _ _ _ hj).trans ((below_drewN (Below.refl W6.heap.size W6) _).block j hlt)⟩
 case rest =>
  obtain ⟨rfl, rfl, hrow, hbx, hoth⟩ := hcut
  rename World => wx
  go_wp2_with fail
  refine bodyPost_ret (v := .tuple #[spotV n ys r i, .bool (Mk.Bit.on (rowOf r ys) i), .int .i64 0]) (results_ctt (p := 8) (a := 9) (u := 10) (ty := 138) Tryz.results70 _ _ (w.heap.size + 1) 138 _ (0, 0) _ rfl hrow Tryz.underlying138 rfl (info138 (n : Int) hl r (i : Int))) rfl ?_
  obtain ⟨hv2, hst, hbw, hb6, hlt, hsz2, hsz, hszW⟩ := HV.out
  have hs26 := hb6.size
  have hlow : Below w.heap.size w2 wx := (hb6.mono (by omega)).trans hbx
  refine ⟨rfl, F', hv2.else hlow.size (fun k hk => ?_), stp_low (stp_after hbw hst) hlow⟩
  have hklt := hv2.lt k hk
  have hk1 : k ≠ w.heap.size + 1 := by
   rcases hst.new k hk with h1 | h1
   ·have := hlt k h1; omega
   ·omega
  exact (hoth k hk1 (by omega)).trans (hb6.block k hklt)
end
end Go.Proofs.YthdlpeejmmobmaaGreat

namespace Go.Proofs.YthdlpeejmmobmaaGreat
open Go.RowKit Go.Maps
set_option maxRecDepth 100000
set_option linter.unusedVariables false
theorem place_blk {N G B Q : Nat} (hg : Geo G B Q N) {b : Nat} (hb : b < N) (w : World) : Calls Tryz.prog 137 #[.int .i64 (Mk.Al.rI false), Mk.geomV G B Q, .int .i64 (b : Int)] w fun e w' => e = .returned (.tuple #[.int .i64 ((b / B : Nat) : Int), .int .i64 ((b % B : Nat) : Int)]) ∧ Below w.heap.size w w' := by
 have hof : Mk.Gm.Of (G : Int) B Q B (b : Int) := ⟨hg.may, by omega, by have := hg.N; rw [← Int.natCast_mul]; omega⟩
 have := Mk.Al.place_blocks hof w
 simpa using this
theorem div_lt_G {N G B Q : Nat} (hg : Geo G B Q N) {b : Nat} (hb : b < N) : b / B < G := by
 rw [← hg.N] at hb
 exact Nat.div_lt_of_lt_mul (by rw [Nat.mul_comm]; exact hb)
section
variable [Inhabited Past] {w w' : World} {v : Nat} {F : Nat → Prop} {N : Nat} {I : Nat → List Int} {l c G B Q : Nat}
open Mk.Al in
set_option maxHeartbeats 4000000 in
theorem takeBack_ok (h : Vol w v F N I l c) (hg : Geo G B Q N) {n : Nat} (hn : n < G) {ys : List Int} (hI : I (n * B + 1) = Mk.groupL (n : Int) ys) (hl : ys.length = 40) (hy : Mk.Num.Byt ys) (hc : c < 4611686018427387904) (hl1 : l + 1 ≤ 10000) (r : Bool) (i : Nat) (hi : i / 8 < rLen r) (x : Int)
  (hpl : ∀ w, Calls Tryz.prog 137 #[.int .i64 (rI r), Mk.geomV G B Q, .int .i64 x] w fun e w' => e = .returned (.tuple #[.int .i64 (n : Int), .int .i64 (i : Int)]) ∧ Below w.heap.size w w')
  (q : Option Addr) (m d : Nat) (zs : List Int) (hz : Pt.II w q m zs) (hqv : ∀ k, Pt.blkOf q = some k → ¬ F k) (hk : zs.all (Pt.kn l) = true) (hm : m ≤ 100000) :
  Calls Tryz.prog 71 #[.pointer (some ⟨v, 0, none⟩), Mk.geomV G B Q, .int .i64 (rI r), .int .i64 x, .slice q m d] w fun e w' =>
   (Mk.Bit.on (rowOf r ys) i = true → e = .returned (.tuple #[.int .i64 ((l + 1 : Nat) : Int), .int .i64 0]) ∧ ∃ F', Vol w' v F' N (putH I B n (putY r ys i false)) (l + 1) (c + 1) ∧ Pt.Stp F F' w w') ∧
   (Mk.Bit.on (rowOf r ys) i = false → e = .returned (.tuple #[.int .i64 0, .int .i64 110]) ∧ ∃ F', Vol w' v F' N I l (c + 1) ∧ Pt.Stp F F' w w') := by
 obtain ⟨W, hW⟩ : ∃ W, w.alloc (Mk.geomO G B Q) = W := ⟨_, rfl⟩
 have hb : Below w.heap.size w W := by rw [← hW]; exact Mk.grew_alloc _ _
 have hx : W.heap[w.heap.size]? = some (Mk.geomO G B Q) := by rw [← hW]; exact at_new rfl
 have c0 := (g3_of hx).c0
 have c1 := (g3_of hx).c1
 have c2 := (g3_of hx).c2
 have hv := h.later hb
 have hlt := h.lt
 have hsz : W.heap.size = w.heap.size + 1 := by rw [← hW]; simp
 have hlo := look_ok hv hg hn hI hl hy hc r i hi x hpl
 have hzW := hz.kept hb
 have hvm := h.mem
 obtain ⟨o, ho⟩ : ∃ o, Mk.Bit.on (rowOf r ys) i = o := ⟨_, rfl⟩
 rw [ho] at hlo ⊢
 have hinf := info138 (n : Int) hl r (i : Int)
 go_enter Tryz.func71, Tryz.ntmps71
 go_wp2_with fail
 refine Calls.mono hlo ?_
 rintro e w1 ⟨rfl, F', hv1, hst⟩
 have hs1 := hst.fr.size
 have hx1 : w1.heap[w.heap.size]? = some (Mk.geomO G B Q) := (hst.fr.block _ (by omega) (fun hf => by have := hlt _ hf; omega)).trans hx
 obtain ⟨W5, hW5⟩ : ∃ W5, w1.alloc (spotO 0 (Mk.zers 40) false 0) = W5 := ⟨_, rfl⟩
 have hn5 : W5.heap[w1.heap.size]? = some (spotO 0 (Mk.zers 40) false 0) := by rw [← hW5]; exact at_new rfl
 obtain ⟨W6, hW6⟩ : ∃ W6, W5.setRow w1.heap.size (spotA n ys r i) = W6 := ⟨_, rfl⟩
 have hn6 : W6.heap[w1.heap.size]? = some (spotO n ys r i) := by rw [← hW6]; exact setRow_heap _ _ _ _ _ _ hn5
 have hb6 : Below w1.heap.size w1 W6 := by
  rw [← hW6]
  exact below_setRow (by rw [← hW5]; exact Mk.grew_alloc _ _) (Nat.le_refl _) _
 have hx6 := (hb6.block _ (by omega)).trans hx1
 have c0 := (g3_of hx6).c0
 have c1 := (g3_of hx6).c1
 have c2 := (g3_of hx6).c2
 have hss : (spotA 0 (Mk.zers 40) false 0).size = (spotA n ys r i).size := (spot_size 0 (Mk.zers_len 40) false 0).trans (spot_size (n : Int) hl r (i : Int)).symm
 have hso := spot_one (n : Int) ys r (i : Int)
 have hz6 : Pt.II W6 q m zs := hzW.keptIf (fun k hk hl => (hb6.block k (by omega)).trans (hst.fr.block k hl (hqv k hk)))
 have htu := turn_ok (hv1.later hb6) hg hn hI hl hy hl1 r i hi q m d zs hz6 (fun k hk e => hqv k hk (by rw [e]; exact hvm)) hk hm
 rw [ho] at htu
 have HV : Hid (Vol w1 v F' N I l (c + 1) ∧ Pt.Stp F F' W w1 ∧ Below w.heap.size w W ∧ Below w1.heap.size w1 W6) := ⟨hv1, hst, hb, hb6⟩
 dsimp only [spotO] at hW5
 rw [zeroSpot] at hW5
 clear hv1 hst hb hb6 h hv hlo hzW hz6 hz hlt hx hx1 hI hpl hW ho
 cases o
 ·go_wp2_with (first
   | (refine wpList_store_row rfl 138 _ _ rfl w1.heap.size (spotA n ys r i) rfl rfl 138 _ hn5 hinf hss hso ?_; rw [hW6]))
  go_ret2
  obtain ⟨hv1, hst, hb, hb6⟩ := HV.out
  exact ⟨rfl, F', hv1.later hb6, stp_grown (stp_after hb hst) hb6⟩
 ·go_wp2_with (first
   | (refine wpList_store_row rfl 138 _ _ rfl w1.heap.size (spotA n ys r i) rfl rfl 138 _ hn5 hinf hss hso ?_; rw [hW6])
   | (refine wpList_load_row rfl 138 _ rfl w1.heap.size rfl 138 _ (0, 0) _ hn6 Tryz.underlying138 rfl hinf ?_))
  refine Calls.mono htu ?_
  rintro e w2 ⟨rfl, F2, hv2, hst2⟩
  dsimp only
  go_wp2_with fail
  go_ret2
  obtain ⟨hv1, hst, hb, hb6⟩ := HV.out
  exact ⟨rfl, F2, hv2, stp_trans (stp_grown (stp_after hb hst) hb6) hst2⟩
set_option maxHeartbeats 1000000 in
theorem refusalBlock_ok (h : Vol w v F N I l c) (hg : Geo G B Q N) {b : Nat} (hb : b < N) (hd : 2 + Q / 4 ≤ b % B) : Calls Tryz.prog 69 #[.pointer (some ⟨v, 0, none⟩), Mk.geomV G B Q, .int .i64 (b : Int)] w fun e w' => e = .returned (.int .i64 0) ∧ Below w.heap.size w w' := by
 obtain ⟨W, hW⟩ : ∃ W, w.alloc (Mk.geomO G B Q) = W := ⟨_, rfl⟩
 have hbw : Below w.heap.size w W := by rw [← hW]; exact Mk.grew_alloc _ _
 have hx : W.heap[w.heap.size]? = some (Mk.geomO G B Q) := by rw [← hW]; exact at_new rfl
 have c0 := (g3_of hx).c0
 have c1 := (g3_of hx).c1
 have c2 := (g3_of hx).c2
 have hr := refusal_ok2 (h.later hbw) hg
 have hof : Mk.Gm.Of (G : Int) B Q B (b : Int) := ⟨hg.may, by omega, by have := hg.N; rw [← Int.natCast_mul]; omega⟩
 have hda := fun w => Mk.Al.isData_in hof w
 rw [show decide ((2 : Int) + (Q : Int) / 4 ≤ (b : Int) % (B : Int)) = true from decide_eq_true (by omega)] at hda
 clear hx hof
 go_enter Tryz.func69, Tryz.ntmps69
 go_wp2_with fail
 refine Mk.grew_at hr ?_
 intro w1 hb1
 have c0 := Mk.cell_kept c0 hb1
 have c1 := Mk.cell_kept c1 hb1
 have c2 := Mk.cell_kept c2 hb1
 dsimp only
 go_wp2_with fail
 refine Mk.grew_at (hda _) ?_
 intro w2 hb2
 dsimp only
 go_wp2_with fail
 go_ret
 exact ⟨rfl, (hbw.trans (hb1.mono hbw.size)).trans (hb2.mono (Nat.le_trans hbw.size hb1.size))⟩
open Mk.Al in
set_option maxHeartbeats 2000000 in
theorem freeBlock_ok (h : Vol w v F N I l c) (hg : Geo G B Q N) {H : Nat → List Int} (hH : Hds I G B H) {b : Nat} (hb : b < N) (hd : 2 + Q / 4 ≤ b % B) (hc : c < 4611686018427387904) (hl1 : l + 1 ≤ 10000)
  (q : Option Addr) (m d : Nat) (zs : List Int) (hz : Pt.II w q m zs) (hqv : ∀ k, Pt.blkOf q = some k → ¬ F k) (hk : zs.all (Pt.kn l) = true) (hm : m ≤ 100000) :
  Calls Tryz.prog 24 #[.pointer (some ⟨v, 0, none⟩), Mk.geomV G B Q, .int .i64 (b : Int), .slice q m d] w fun e w' =>
   (Mk.Bit.on (rowOf false (H (b / B))) (b % B) = true → e = .returned (.tuple #[.int .i64 ((l + 1 : Nat) : Int), .int .i64 0]) ∧ ∃ F', Vol w' v F' N (putH I B (b / B) (putY false (H (b / B)) (b % B) false)) (l + 1) (c + 1) ∧ Pt.Stp F F' w w') ∧
   (Mk.Bit.on (rowOf false (H (b / B))) (b % B) = false → e = .returned (.tuple #[.int .i64 0, .int .i64 110]) ∧ ∃ F', Vol w' v F' N I l (c + 1) ∧ Pt.Stp F F' w w') := by
 have hfit := hg.fit
 have hn := div_lt_G hg hb
 obtain ⟨W, hW⟩ : ∃ W, w.alloc (Mk.geomO G B Q) = W := ⟨_, rfl⟩
 have hbw : Below w.heap.size w W := by rw [← hW]; exact Mk.grew_alloc _ _
 have hx : W.heap[w.heap.size]? = some (Mk.geomO G B Q) := by rw [← hW]; exact at_new rfl
 have c0 := (g3_of hx).c0
 have c1 := (g3_of hx).c1
 have c2 := (g3_of hx).c2
 have hr := refusalBlock_ok (h.later hbw) hg hb hd
 have hmod : b % B < B := Nat.mod_lt _ (by omega)
 have hl := hH.len _ hn
 have htb := fun (w1 : World) (hb1 : Below W.heap.size W w1) => takeBack_ok ((h.later hbw).later hb1) hg hn (hH.at_ _ hn) hl (hH.byt _ hn) hc hl1 false (b % B) (by show b % B / 8 < 32; omega) (b : Int) (place_blk hg hb) q m d zs ((hz.kept hbw).kept hb1) hqv hk hm
 change ∀ w1, _ → Calls _ _ #[_, _, .int .i64 0, _, _] _ _ at htb
 have HB : Hid (Below w.heap.size w W) := hbw
 clear hx hbw h hg hH hl hn hmod hd hz hqv hk
 generalize putH I B (b / B) (putY false (H (b / B)) (b % B) false) = nw at *
 generalize Mk.Bit.on (rowOf false (H (b / B))) (b % B) = o at *
 go_enter Tryz.func24, Tryz.ntmps24
 go_wp2_with fail
 refine Mk.grew_at hr ?_
 intro w1 hb1
 have c0 := Mk.cell_kept c0 hb1
 have c1 := Mk.cell_kept c1 hb1
 have c2 := Mk.cell_kept c2 hb1
 have ht1 := htb _ hb1
 have hbb : Below w.heap.size w w1 := HB.out.trans (hb1.mono HB.out.size)
 have HBB : Hid (Below w.heap.size w w1) := hbb
 clear htb hr hbb hb1
 dsimp only
 go_wp2_with fail
 refine Calls.mono ht1 ?_
 rintro e w2 ⟨h1, h2⟩
 cases o
 ·obtain ⟨rfl, F', hv, hst⟩ := h2 rfl
  clear h1 h2 ht1
  dsimp only
  go_wp2_with fail
  go_ret2
  exact ⟨rfl, F', hv, stp_after HBB.out hst⟩
 ·obtain ⟨rfl, F', hv, hst⟩ := h1 rfl
  clear h1 h2 ht1
  dsimp only
  go_wp2_with fail
  go_ret2
  exact ⟨rfl, F', hv, stp_after HBB.out hst⟩
end
end Go.Proofs.YthdlpeejmmobmaaGreat
