/- Copy: another disk with the same blocks, queue, numbers and failures. -/
import Derived.Test.YtemhhgpgpjiijaaCrash
import Derived.Laws.Externs
namespace Go.Proofs.Ytemhhgpgpjiijaa
open Go.RowKit Go.Maps

theorem mapIsNil {P : Program} {t k e : TypeId} (h : P.underlying t = some (.map k e)) (d : Nat) (p : Option Nat) (w : World) : (Op.equalIn (d + 1) t (.map p) (.map none)).run P w = .ok p.isNone w := by
  cases p <;> simp [Op.equalIn, run_underlying h]

theorem mapEqlNil {P : Program} {t k e : TypeId} (h : P.underlying t = some (.map k e)) (p : Option Nat) (w : World) : (binOp .eql t (.map p) (.map none)).run P w = .ok (.bool p.isNone) w := by
  have h1 := mapIsNil h 9999 p w
  have h2 : Op.equal t (.map p) (.map none) = Op.equalIn (9999 + 1) t (.map p) (.map none) := rfl
  simp only [binOp, h2]
  generalize Op.equalIn (9999 + 1) t (.map p) (.map none) = s at h1
  simp [h1]

theorem asserted {P : Program} {t k e xT : TypeId} (v : Value) (h : P.underlying t = some (.map k e)) (w : World) : (Instr.typeAssert (.iface t v) xT t false).run P w = .ok v w := by
  simp [Instr.typeAssert, run_underlying h, go_sem, Result.andThen]

theorem cloned {P : Program} {w : World} {r : Nat} {es : Array MapEntry} {clock : Nat} (t : TypeId) (hb : w.heap[r]? = some (.map es clock)) : (Extern.MapsClone.clone #[.iface t (.map (some r))]).run P w = .ok (.iface t (.map (some w.heap.size))) (w.alloc (.map es clock)) := by
  have e : Extern.MapsClone.clone #[.iface t (.map (some r))] = (getObj r >>= fun o => match o with
      | .map entries clock => (newObj (.map entries clock) >>= fun n => pure (.iface t (.map (some n))))
      | _ => stuck "maps.clone: a map expected") := rfl
  rw [e]
  simp [MapKept.run_getObj_map hb, Result.andThen, go_sem]

theorem called58 (args : Array Value) (w : World) : (callFunc 51 args).run Try.prog w = ((Extern.MapsClone.clone args).run Try.prog w).andThen fun v w' => .ok (.value v) w' :=
  run_callFunc_extern Try.func51 (by kernel_rfl) (by kernel_rfl) (by kernel_rfl) (by kernel_rfl) args w

set_option maxRecDepth 10000 in
set_option maxHeartbeats 1000000 in
theorem mclone44 (b : Nat) (es : Array MapEntry) (clock : Nat) (w : World) (hb : w.heap[b]? = some (.map es clock)) : Calls Try.prog 30 #[.map (some b)] w fun e w' => e = .returned (.map (some w.heap.size)) ∧ w' = w.alloc (.map es clock) := by
  have hq := fun w => mapEqlNil Try.underlying63 (some b) w
  go_enter Try.func30, Try.ntmps30
  go_wp2
  rw [called58, cloned 63 hb]
  simp only [Result.andThen]
  rw [Oper.upon_value]
  go_wp2
  rw [asserted _ Try.underlying63]
  simp only [Result.andThen]
  rw [Oper.upon_value]
  go_wp2
  go_ret
  exact ⟨rfl, rfl⟩

set_option maxRecDepth 10000 in
set_option maxHeartbeats 1000000 in
theorem mclone46 (b : Nat) (es : Array MapEntry) (clock : Nat) (w : World) (hb : w.heap[b]? = some (.map es clock)) : Calls Try.prog 32 #[.map (some b)] w fun e w' => e = .returned (.map (some w.heap.size)) ∧ w' = w.alloc (.map es clock) := by
  have hq := fun w => mapEqlNil Try.underlying65 (some b) w
  go_enter Try.func32, Try.ntmps32
  go_wp2
  rw [called58, cloned 65 hb]
  simp only [Result.andThen]
  rw [Oper.upon_value]
  go_wp2
  rw [asserted _ Try.underlying65]
  simp only [Result.andThen]
  rw [Oper.upon_value]
  go_wp2
  go_ret
  exact ⟨rfl, rfl⟩

theorem eqlNil59 (w : World) (a : Option Addr) (n c n' c' : Nat) : (binOp .eql 64 (.slice a n c) (.slice none n' c')).run Try.prog w = .ok (.bool a.isNone) w := Lib.run_eql_slice_nil w _ _ a n c n' c' Try.underlying64

set_option maxHeartbeats 400000 in
theorem wclone_nil (n c : Nat) (w : World) :
    Calls Try.prog 31 #[.slice none n c] w fun e w' => e = .returned (.slice none 0 0) ∧ w' = w := by
  have q22 := eqlNil59
  go_enter Try.func31, Try.ntmps31
  go_wp2
  go_ret
  exact ⟨rfl, rfl⟩

set_option maxRecDepth 10000 in
set_option maxHeartbeats 1000000 in
theorem wclone_some {B : Nat} {w : World} {g n cap : Nat} {q : List Wr} (h : w.ownsRow B 71 130 (.slice (some ⟨g, 0, none⟩) n cap) n (flat q)) (h64 : n ≤ 64) :
    Calls Try.prog 31 #[.slice (some ⟨g, 0, none⟩) n cap] w fun e w' => ∃ v, e = .returned v ∧ w'.ownsRow w.heap.size 71 130 v n (flat q) ∧ Below w.heap.size w w' := by
  obtain ⟨i0, hi, hz0, hz1, hz2⟩ := info_parts zero86'
  have q22 := eqlNil59
  have hb0 := (Below.refl w.heap.size w).alloc (Nat.le_refl _) (Obj.cells #[] 71)
  have hk := ownsRow_kept h (fun k hk => hb0.block k (h.lt k hk).2)
  have hcl : ∀ j u, (flat q)[j]? = some u → (w.alloc (.cells #[] 71)).cell? ((⟨g, 0, none⟩ : Addr).add j) = some u := by
    intro j u hu
    have e : (⟨g, 0, none⟩ : Addr).add j = ⟨g, j, none⟩ := by rw [Addr.add_mid, Nat.zero_add]
    have hl := h.1
    have := (List.getElem?_eq_some_iff.1 hu).1
    rw [e, hk.cellAt j (by omega), hu]
  have hone := flat_one (q := q)
  have hlen := h.1
  generalize flat q = L at *
  have hzs : (Value.agg zwr.toArray).cells.size = 130 := by simp [Value.cells, zwr_len]
  generalize Value.agg zwr.toArray = Z at hz0 hzs
  go_enter Try.func31, Try.ntmps31
  go_wp2_with (at_builtin; refine wpList_append_own _ rfl _ _ 64 rfl w.heap.size 71 i0 Z 130 144 Try.underlying64 hi hz0 hz1 hz2 hzs (by decide) _ _ _ rfl (World.ownsRow_made w #[] 0 (Nat.le_refl _) (Nat.zero_le _) rfl) ⟨g, 0, none⟩ n cap L rfl hlen hcl hone (by unfold maxLen; omega) (by omega) (by simp) ?_)
  intro v' w1 hown hgrow hnil
  have hb1 := hb0.grown hgrow (by simp) (by intro k hk; simp [Value.ownBlock] at hk; omega)
  clear hgrow hnil
  go_wp2
  go_ret
  exact ⟨v', rfl, by simpa using hown, hb1⟩

theorem Secs.moved {w w' : World} {mb mb' N : Nat} {f : Nat → List Int} (h : Secs w mb N f) {es : Array MapEntry} {clock : Nat} (hb : w.heap[mb]? = some (.map es clock)) (hb' : w'.heap[mb']? = some (.map es clock)) : Secs w' mb' N f := by
  obtain ⟨D, ⟨es1, c1, ho, r⟩, k⟩ := h.ex
  rw [ho] at hb
  cases hb
  exact ⟨⟨D, ⟨_, _, hb', r⟩, k⟩, h.all⟩

theorem Fls.moved {w w' : World} {mb mb' N : Nat} {f : Nat → Int} (h : Fls w mb N f) {es : Array MapEntry} {clock : Nat} (hb : w.heap[mb]? = some (.map es clock)) (hb' : w'.heap[mb']? = some (.map es clock)) : Fls w' mb' N f := by
  obtain ⟨D, ⟨es1, c1, ho, r⟩, k⟩ := h.ex
  rw [ho] at hb
  cases hb
  exact ⟨⟨D, ⟨_, _, hb', r⟩, k⟩, h.all⟩

section
variable {B : Nat} {w : World} {a mb fb : Nat} {qv : Value} {S : St}

theorem slice_shape {e : TypeId} {s n : Nat} {v : Value} {L : List Value} (h : w.ownsRow B e s v n L) : ∃ p c, v = .slice p n c := by
  rcases h.2 with ⟨rfl, rfl⟩ | ⟨g, cap, cur, rfl, _⟩
  · exact ⟨_, _, rfl⟩
  · exact ⟨_, _, rfl⟩

theorem wclone_any' (h : DI B w a mb fb qv S) : Calls Try.prog 31 #[qv] w fun e w' => ∃ v, e = .returned v ∧ w'.ownsRow w.heap.size 71 130 v S.q.length (flat S.q) ∧ Below w.heap.size w w' := by
  rcases h.qcase with ⟨e1, e2⟩ | ⟨g, cap, e⟩
  · rw [e1, e2]
    exact (wclone_nil 0 0 w).mono fun e w' ⟨he, hw⟩ => ⟨_, he, World.ownsRow_nil _ _ _ _, by rw [hw]; exact Below.refl _ _⟩
  · have := h.que
    rw [e] at this
    rw [e]
    exact wclone_some this h.q64

theorem wclone_any (h : DI B w a mb fb qv S) : Calls Try.prog 31 #[qv] w fun e w' => ∃ p c, e = .returned (.slice p S.q.length c) ∧ w'.ownsRow w.heap.size 71 130 (.slice p S.q.length c) S.q.length (flat S.q) ∧ Below w.heap.size w w' :=
  (wclone_any' h).mono fun e w' ⟨v, he, ho, hb⟩ => by
    obtain ⟨p, c, rfl⟩ := slice_shape ho
    exact ⟨p, c, he, ho, hb⟩

theorem DI.five (h : DI B w a mb fb qv S) : w.cell? ⟨a, 0, none⟩ = some (.int .i64 (S.N : Int)) ∧ w.cell? ⟨a, 1, none⟩ = some (.map (some mb)) ∧ w.cell? ⟨a, 2, none⟩ = some qv ∧ w.cell? ⟨a, 3, none⟩ = some (.int .i64 S.last) ∧ w.cell? ⟨a, 4, none⟩ = some (.map (some fb)) := ⟨h.c0, h.c1, h.c2, h.c3, h.c4⟩

theorem copy_fin {w0 w1 w2 w3 : World} {es es' : Array MapEntry} {c c' : Nat} {v : Value} (h : DI B w0 a mb fb qv S) (hm : w0.heap[mb]? = some (.map es c)) (hf : w0.heap[fb]? = some (.map es' c')) (e1 : w1 = w0.alloc (.map es c)) (hq : w2.ownsRow w1.heap.size 71 130 v S.q.length (flat S.q)) (hb2 : Below w1.heap.size w1 w2) (e3 : w3 = w2.alloc (.map es' c')) :
    DI w0.heap.size (w3.alloc (.cells #[.int .i64 (S.N : Int), .map (some w0.heap.size), v, .int .i64 S.last, .map (some w2.heap.size)] 67)) w3.heap.size w0.heap.size w2.heap.size v S ∧ Below w0.heap.size w0 (w3.alloc (.cells #[.int .i64 (S.N : Int), .map (some w0.heap.size), v, .int .i64 S.last, .map (some w2.heap.size)] 67)) := by
  have hs1 : w1.heap.size = w0.heap.size + 1 := by rw [e1]; simp
  have hs3 : w3.heap.size = w2.heap.size + 1 := by rw [e3]; simp
  have hs2 := hb2.size
  have b1 : Below w0.heap.size w0 w1 := by rw [e1]; exact (Below.refl _ _).alloc (Nat.le_refl _) _
  have b3 : Below w2.heap.size w2 w3 := by rw [e3]; exact (Below.refl _ _).alloc (Nat.le_refl _) _
  have b4 := (Below.refl w3.heap.size w3).alloc (Nat.le_refl _) (.cells #[.int .i64 (S.N : Int), .map (some w0.heap.size), v, .int .i64 S.last, .map (some w2.heap.size)] 67)
  have m1 : w1.heap[w0.heap.size]? = some (.map es c) := by rw [e1]; exact at_new rfl
  have m3 : w3.heap[w2.heap.size]? = some (.map es' c') := by rw [e3]; exact at_new rfl
  refine ⟨{ row := at_new rfl, secs := h.secs.moved hm ?_, que := ?_, fls := h.fls.moved hf ?_, lo := ⟨by omega, Nat.le_refl _, by omega⟩, ne := by omega, N1 := h.N1, N2 := h.N2, q64 := h.q64, qok := h.qok, lok := h.lok }, ((b1.trans (hb2.mono (by omega))).trans (b3.mono (by omega))).trans (b4.mono (by omega))⟩
  · rw [b4.block _ (by omega), b3.block _ (by omega), hb2.block _ (by omega)]
    exact m1
  · have hk := ownsRow_kept (ownsRow_kept hq (fun k hk => b3.block k (hq.lt k hk).2)) (w' := w3.alloc (.cells #[.int .i64 (S.N : Int), .map (some w0.heap.size), v, .int .i64 S.last, .map (some w2.heap.size)] 67)) (fun k hk => b4.block k (by have := (hq.lt k hk).2; omega))
    refine ⟨hk.1, ?_⟩
    rcases hk.2 with h' | ⟨g', cap', cur, h', hbg, rest⟩
    · exact .inl h'
    · exact .inr ⟨g', cap', cur, h', by omega, rest⟩
  · rw [b4.block _ (by omega)]
    exact m3

set_option maxRecDepth 10000 in
set_option maxHeartbeats 2000000 in
theorem copy_ok (h : DI B w a mb fb qv S) : Calls Try.prog 9 #[.pointer (some ⟨a, 0, none⟩)] w fun e w' => ∃ a' mb' fb' qv', e = .returned (.pointer (some ⟨a', 0, none⟩)) ∧ DI w.heap.size w' a' mb' fb' qv' S ∧ Below w.heap.size w w' := by
  have hdd : DI B w.drew a mb fb qv S := h.kept (fun _ _ => rfl)
  obtain ⟨es, cl, hm⟩ : ∃ es cl, w.drew.heap[mb]? = some (.map es cl) := by
    obtain ⟨D, ⟨es, cl, hb, _⟩, _⟩ := hdd.secs.ex
    exact ⟨es, cl, hb⟩
  obtain ⟨es', cl', hf⟩ : ∃ es cl, w.drew.heap[fb]? = some (.map es cl) := by
    obtain ⟨D, ⟨es, cl, hb, _⟩, _⟩ := hdd.fls.ex
    exact ⟨es, cl, hb⟩
  have hfive := hdd.five
  obtain ⟨v0, v1, v2, v3, v4⟩ := hdd.five
  go_enter Try.func9, Try.ntmps9
  go_wp2_with fail
  refine same_at (made_ok h) ?_
  go_wp2_with fail
  go_region_held3 (fun w' => w'.cell? ⟨a, 0, none⟩ = some (.int .i64 (S.N : Int)) ∧ w'.cell? ⟨a, 1, none⟩ = some (.map (some mb)) ∧ w'.cell? ⟨a, 2, none⟩ = some qv ∧ w'.cell? ⟨a, 3, none⟩ = some (.int .i64 S.last) ∧ w'.cell? ⟨a, 4, none⟩ = some (.map (some fb))) (first | exact hfive | exact hd1.five | exact hd2.five | exact hd3.five | exact (hd3.later ((Below.refl _ _).alloc (Nat.le_refl _) _)).five)
    (first
      | (go_at_call 30; refine Calls.mono (mclone44 mb es cl _ hm) ?_; rintro e w1 ⟨rfl, hw1⟩; have hd1 : DI B w1 a mb fb qv S := hdd.later (by rw [hw1]; exact (Below.refl _ _).alloc (Nat.le_refl _) _); have HW1 := (show Hid (w1 = w.drew.alloc (.map es cl)) from hw1); clear hw1)
      | (go_at_call 32; refine Calls.mono (mclone46 fb es' cl' _ hf2) ?_; rintro e w3 ⟨rfl, hw3⟩; have hd3 : DI B w3 a mb fb qv S := hd2.later (by rw [hw3]; exact (Below.refl _ _).alloc (Nat.le_refl _) _); have HW3 := (show Hid (w3 = w2.alloc (.map es' cl')) from hw3); clear hw3)
      | (go_at_call 31; refine Calls.mono (wclone_any hd1) ?_; rintro e w2 ⟨vp, vc, rfl, hq2, hb2⟩; have hd2 : DI B w2 a mb fb qv S := hd1.later hb2; have hf2 : w2.heap[fb]? = some (.map es' cl') := (hb2.block fb hd1.fls.lt).trans (by rw [HW1.out]; exact (Below.heap_alloc _ _ _ hdd.fls.lt).trans hf)))
  have hfin := copy_fin hdd hm hf HW1.out hq2 hb2 HW3.out
  go_wp2
  go_ret
  exact ⟨_, _, _, _, rfl, hfin.1, (Below.refl _ _).drew.trans hfin.2⟩
end
end Go.Proofs.Ytemhhgpgpjiijaa
