/- The functions that the law reaches, as the small machine takes them. -/
import Derived.Test.YtgbkicelkpagpaaVmA
import Derived.KernelRfl
open Go.Vm
namespace Go.Proofs.Ytgbkicelkpagpaa.W
open Go
def fn7 : AFn := (AFn.mk 45 [(.t 4)] (.seq (.ops [
  (.mk (some 4) none (.pure (.mv (.c (.b false)))))]) (.seq (.seq (.ops [
  (.mk (some 11) none (.pure (.mv (.t 1)))), 
  (.mk (some 12) none (.pure (.len true (.t 11)))), 
  (.mk (some 13) none (.pure (.bin .gtr (.t 12) (.c (.i .i64 500)))))]) (.cond (.t 13) (.seq (.ops [
  (.mk (some 14) none (.call 15 [])), 
  (.mk (some 4) none (.pure (.mv (.t 14))))]) .ret) .skip)) (.seq (.ops [
  (.mk (some 16) none (.pure (.mv (.t 0)))), 
  (.mk (some 17) none (.pure (.mv (.t 1)))), 
  (.mk (some 18) none (.call 34 [(.t 16), (.t 17)])), 
  (.mk (some 15) none (.pure (.mv (.t 18)))), 
  (.mk (some 19) none (.pure (.ext 0 (.t 15)))), 
  (.mk (some 20) none (.pure (.ext 1 (.t 15)))), 
  (.mk (some 21) none (.pure (.ext 2 (.t 15)))), 
  (.mk (some 5) none (.pure (.mv (.t 19)))), 
  (.mk (some 6) none (.pure (.mv (.t 20)))), 
  (.mk (some 7) none (.pure (.mv (.t 21))))]) (.seq (.ops [
  (.mk (some 23) none (.pure (.mv (.t 0)))), 
  (.mk (some 24) none (.pure (.mv (.t 1)))), 
  (.mk (some 25) none (.call 35 [(.t 23), (.t 24)])), 
  (.mk (some 22) none (.pure (.mv (.t 25)))), 
  (.mk (some 26) none (.pure (.ext 0 (.t 22)))), 
  (.mk (some 27) none (.pure (.ext 1 (.t 22)))), 
  (.mk (some 28) none (.pure (.ext 2 (.t 22)))), 
  (.mk (some 8) none (.pure (.mv (.t 26)))), 
  (.mk (some 9) none (.pure (.mv (.t 27)))), 
  (.mk (some 10) none (.pure (.mv (.t 28))))]) (.seq (.ops [
  (.mk (some 29) none (.pure (.mv (.t 5)))), 
  (.mk (some 30) none (.pure (.mv (.t 8)))), 
  (.mk (some 31) none (.pure (.bin .eql (.t 29) (.t 30)))), 
  (.mk (some 32) none (.pure (.mv (.t 31)))), 
  (.mk (some 33) (some (32, true)) (.pure (.mv (.t 6)))), 
  (.mk (some 34) (some (32, true)) (.pure (.mv (.t 9)))), 
  (.mk (some 35) (some (32, true)) (.pure (.bin .eql (.t 33) (.t 34)))), 
  (.mk (some 36) none (.pure (.pick (.t 32) (.t 35) (.c (.b false))))), 
  (.mk (some 37) none (.pure (.mv (.t 36)))), 
  (.mk (some 38) (some (37, true)) (.pure (.mv (.t 7)))), 
  (.mk (some 39) (some (37, true)) (.pure (.mv (.t 10)))), 
  (.mk (some 40) (some (37, true)) (.pure (.bin .eql (.t 38) (.t 39)))), 
  (.mk (some 41) none (.pure (.pick (.t 37) (.t 40) (.c (.b false))))), 
  (.mk (some 42) none (.pure (.mv (.t 41)))), 
  (.mk (some 43) (some (42, true)) (.call 15 [])), 
  (.mk (some 44) none (.pure (.pick (.t 42) (.t 43) (.c (.b false))))), 
  (.mk (some 4) none (.pure (.mv (.t 44))))]) .ret))))))
def fn15 : AFn := (AFn.mk 60 [(.t 0)] (.seq (.ops [
  (.mk (some 0) none (.pure (.mv (.c (.b false)))))]) (.seq (.ops [
  (.mk (some 11) none (.call 16 [(.c (.i .i64 90)), (.c (.s [48, 48, 49, 48, 48]))])), 
  (.mk (some 10) none (.pure (.mv (.t 11)))), 
  (.mk (some 12) none (.pure (.ext 0 (.t 10)))), 
  (.mk (some 13) none (.pure (.ext 1 (.t 10)))), 
  (.mk (some 1) none (.pure (.mv (.t 12)))), 
  (.mk (some 2) none (.pure (.mv (.t 13))))]) (.seq (.ops [
  (.mk (some 15) none (.call 26 [(.c (.i .i64 110)), (.c (.i .i64 20))])), 
  (.mk (some 14) none (.pure (.mv (.t 15)))), 
  (.mk (some 16) none (.pure (.ext 0 (.t 14)))), 
  (.mk (some 17) none (.pure (.ext 1 (.t 14)))), 
  (.mk (some 3) none (.pure (.mv (.t 16)))), 
  (.mk (some 4) none (.pure (.mv (.t 17))))]) (.seq (.ops [
  (.mk (some 19) none (.call 28 [(.c (.i .i64 30))])), 
  (.mk (some 18) none (.pure (.mv (.t 19)))), 
  (.mk (some 20) none (.pure (.ext 0 (.t 18)))), 
  (.mk (some 21) none (.pure (.ext 1 (.t 18)))), 
  (.mk (some 5) none (.pure (.mv (.t 20)))), 
  (.mk (some 6) none (.pure (.mv (.t 21))))]) (.seq (.ops [
  (.mk (some 23) none (.call 36 [(.c (.i .i64 110))])), 
  (.mk (some 22) none (.pure (.mv (.t 23)))), 
  (.mk (some 24) none (.pure (.ext 0 (.t 22)))), 
  (.mk (some 25) none (.pure (.ext 1 (.t 22)))), 
  (.mk (some 26) none (.pure (.ext 2 (.t 22)))), 
  (.mk (some 7) none (.pure (.mv (.t 24)))), 
  (.mk (some 8) none (.pure (.mv (.t 25)))), 
  (.mk (some 9) none (.pure (.mv (.t 26))))]) (.seq (.ops [
  (.mk (some 27) none (.pure (.mv (.t 2)))), 
  (.mk (some 28) none (.pure (.bin .eql (.t 27) (.c (.i .i64 0))))), 
  (.mk (some 29) none (.pure (.mv (.t 28)))), 
  (.mk (some 30) (some (29, true)) (.pure (.mv (.t 1)))), 
  (.mk (some 31) (some (29, true)) (.pure (.sbin .eql (.t 30) (.c (.s [49, 48, 49]))))), 
  (.mk (some 32) none (.pure (.pick (.t 29) (.t 31) (.c (.b false))))), 
  (.mk (some 33) none (.pure (.mv (.t 32)))), 
  (.mk (some 34) (some (33, true)) (.pure (.mv (.t 4)))), 
  (.mk (some 35) (some (33, true)) (.pure (.bin .eql (.t 34) (.c (.i .i64 0))))), 
  (.mk (some 36) none (.pure (.pick (.t 33) (.t 35) (.c (.b false))))), 
  (.mk (some 37) none (.pure (.mv (.t 36)))), 
  (.mk (some 38) (some (37, true)) (.pure (.mv (.t 3)))), 
  (.mk (some 39) (some (37, true)) (.pure (.sbin .eql (.t 38) (.c (.s [48, 49, 48, 49, 48]))))), 
  (.mk (some 40) none (.pure (.pick (.t 37) (.t 39) (.c (.b false))))), 
  (.mk (some 41) none (.pure (.mv (.t 40)))), 
  (.mk (some 42) (some (41, true)) (.pure (.mv (.t 6)))), 
  (.mk (some 43) (some (41, true)) (.pure (.bin .eql (.t 42) (.c (.i .i64 0))))), 
  (.mk (some 44) none (.pure (.pick (.t 41) (.t 43) (.c (.b false))))), 
  (.mk (some 45) none (.pure (.mv (.t 44)))), 
  (.mk (some 46) (some (45, true)) (.pure (.mv (.t 5)))), 
  (.mk (some 47) none (.pure (.pick (.t 45) (.t 46) (.c (.b false))))), 
  (.mk (some 48) none (.pure (.mv (.t 47)))), 
  (.mk (some 49) (some (48, true)) (.pure (.mv (.t 9)))), 
  (.mk (some 50) (some (48, true)) (.pure (.bin .eql (.t 49) (.c (.i .i64 0))))), 
  (.mk (some 51) none (.pure (.pick (.t 48) (.t 50) (.c (.b false))))), 
  (.mk (some 52) none (.pure (.mv (.t 51)))), 
  (.mk (some 53) (some (52, true)) (.pure (.mv (.t 7)))), 
  (.mk (some 54) (some (52, true)) (.pure (.bin .eql (.t 53) (.c (.i .i64 124))))), 
  (.mk (some 55) none (.pure (.pick (.t 52) (.t 54) (.c (.b false))))), 
  (.mk (some 56) none (.pure (.mv (.t 55)))), 
  (.mk (some 57) (some (56, true)) (.pure (.mv (.t 8)))), 
  (.mk (some 58) (some (56, true)) (.pure (.bin .eql (.t 57) (.c (.i .i64 137))))), 
  (.mk (some 59) none (.pure (.pick (.t 56) (.t 58) (.c (.b false))))), 
  (.mk (some 0) none (.pure (.mv (.t 59))))]) .ret)))))))
def fn16 : AFn := (AFn.mk 23 [(.t 4), (.t 5)] (.seq (.ops [
  (.mk (some 4) none (.pure (.mv (.c (.s []))))), 
  (.mk (some 5) none (.pure (.mv (.c (.i .i64 0)))))]) (.seq (.ops [
  (.mk (some 9) none (.pure (.mv (.t 0)))), 
  (.mk (some 10) none (.pure (.mv (.t 1)))), 
  (.mk (some 11) none (.call 45 [(.t 9), (.t 10)])), 
  (.mk (some 8) none (.pure (.mv (.t 11)))), 
  (.mk (some 12) none (.pure (.ext 0 (.t 8)))), 
  (.mk (some 13) none (.pure (.ext 1 (.t 8)))), 
  (.mk (some 6) none (.pure (.mv (.t 12)))), 
  (.mk (some 7) none (.pure (.mv (.t 13))))]) (.seq (.seq (.ops [
  (.mk (some 14) none (.pure (.mv (.t 7)))), 
  (.mk (some 15) none (.pure (.bin .neq (.t 14) (.c (.i .i64 0)))))]) (.cond (.t 15) (.seq (.ops [
  (.mk (some 16) none (.pure (.mv (.t 7)))), 
  (.mk (some 4) none (.pure (.mv (.c (.s []))))), 
  (.mk (some 5) none (.pure (.mv (.t 16))))]) .ret) .skip)) (.seq (.seq (.ops [
  (.mk (some 17) none (.pure (.mv (.t 1)))), 
  (.mk (some 18) none (.pure (.len true (.t 17)))), 
  (.mk (some 19) none (.pure (.bin .lss (.t 18) (.c (.i .i64 3)))))]) (.cond (.t 19) (.seq (.ops [
  (.mk (some 4) none (.pure (.mv (.c (.s []))))), 
  (.mk (some 5) none (.pure (.mv (.c (.i .i64 5)))))]) .ret) .skip)) (.seq (.ops [
  (.mk (some 20) none (.pure (.mv (.t 6)))), 
  (.mk (some 21) none (.pure (.mv (.t 1)))), 
  (.mk (some 22) none (.call 46 [(.t 20), (.t 21)])), 
  (.mk (some 4) none (.pure (.mv (.t 22)))), 
  (.mk (some 5) none (.pure (.mv (.c (.i .i64 0)))))]) .ret))))))
def fn26 : AFn := (AFn.mk 34 [(.t 4), (.t 5)] (.seq (.ops [
  (.mk (some 4) none (.pure (.mv (.c (.s []))))), 
  (.mk (some 5) none (.pure (.mv (.c (.i .i64 0)))))]) (.seq (.ops [
  (.mk (some 10) none (.pure (.mv (.t 0)))), 
  (.mk (some 11) none (.call 61 [(.t 10)])), 
  (.mk (some 9) none (.pure (.mv (.t 11)))), 
  (.mk (some 12) none (.pure (.ext 0 (.t 9)))), 
  (.mk (some 13) none (.pure (.ext 1 (.t 9)))), 
  (.mk (some 6) none (.pure (.mv (.t 12)))), 
  (.mk (some 7) none (.pure (.mv (.t 13))))]) (.seq (.seq (.ops [
  (.mk (some 14) none (.pure (.mv (.t 7)))), 
  (.mk (some 15) none (.pure (.bin .neq (.t 14) (.c (.i .i64 0)))))]) (.cond (.t 15) (.seq (.ops [
  (.mk (some 16) none (.pure (.mv (.t 7)))), 
  (.mk (some 4) none (.pure (.mv (.c (.s []))))), 
  (.mk (some 5) none (.pure (.mv (.t 16))))]) .ret) .skip)) (.seq (.seq (.ops [
  (.mk (some 17) none (.pure (.mv (.t 1)))), 
  (.mk (some 18) none (.pure (.bin .lss (.t 17) (.c (.i .i64 1))))), 
  (.mk (some 19) none (.pure (.mv (.t 18)))), 
  (.mk (some 20) (some (19, false)) (.pure (.mv (.t 1)))), 
  (.mk (some 21) (some (19, false)) (.pure (.bin .gtr (.t 20) (.c (.i .i64 20))))), 
  (.mk (some 22) none (.pure (.pick (.t 19) (.c (.b true)) (.t 21))))]) (.cond (.t 22) (.seq (.ops [
  (.mk (some 4) none (.pure (.mv (.c (.s []))))), 
  (.mk (some 5) none (.pure (.mv (.c (.i .i64 2)))))]) .ret) .skip)) (.seq (.ops [
  (.mk (some 23) none (.pure (.mv (.t 6)))), 
  (.mk (some 24) none (.call 62 [(.t 23)])), 
  (.mk (some 8) none (.pure (.mv (.t 24))))]) (.seq (.seq (.ops [
  (.mk (some 25) none (.pure (.mv (.t 8)))), 
  (.mk (some 26) none (.pure (.sbin .eql (.t 25) (.c (.s []))))), 
  (.mk (some 27) none (.pure (.mv (.t 26)))), 
  (.mk (some 28) (some (27, false)) (.pure (.mv (.t 8)))), 
  (.mk (some 29) (some (27, false)) (.pure (.len true (.t 28)))), 
  (.mk (some 30) (some (27, false)) (.pure (.mv (.t 1)))), 
  (.mk (some 31) (some (27, false)) (.pure (.bin .gtr (.t 29) (.t 30)))), 
  (.mk (some 32) none (.pure (.pick (.t 27) (.c (.b true)) (.t 31))))]) (.cond (.t 32) (.seq (.ops [
  (.mk (some 4) none (.pure (.mv (.c (.s []))))), 
  (.mk (some 5) none (.pure (.mv (.c (.i .i64 10)))))]) .ret) .skip)) (.seq (.ops [
  (.mk (some 33) none (.pure (.mv (.t 8)))), 
  (.mk (some 4) none (.pure (.mv (.t 33)))), 
  (.mk (some 5) none (.pure (.mv (.c (.i .i64 0)))))]) .ret))))))))
def fn28 : AFn := (AFn.mk 17 [(.t 2), (.t 3)] (.seq (.ops [
  (.mk (some 2) none (.pure (.mv (.c (.b false))))), 
  (.mk (some 3) none (.pure (.mv (.c (.i .i64 0)))))]) (.seq (.ops [
  (.mk (some 7) none (.pure (.mv (.t 0)))), 
  (.mk (some 8) none (.call 61 [(.t 7)])), 
  (.mk (some 6) none (.pure (.mv (.t 8)))), 
  (.mk (some 9) none (.pure (.ext 0 (.t 6)))), 
  (.mk (some 10) none (.pure (.ext 1 (.t 6)))), 
  (.mk (some 4) none (.pure (.mv (.t 9)))), 
  (.mk (some 5) none (.pure (.mv (.t 10))))]) (.seq (.seq (.ops [
  (.mk (some 11) none (.pure (.mv (.t 5)))), 
  (.mk (some 12) none (.pure (.bin .neq (.t 11) (.c (.i .i64 0)))))]) (.cond (.t 12) (.seq (.ops [
  (.mk (some 13) none (.pure (.mv (.t 5)))), 
  (.mk (some 2) none (.pure (.mv (.c (.b false))))), 
  (.mk (some 3) none (.pure (.mv (.t 13))))]) .ret) .skip)) (.seq (.ops [
  (.mk (some 14) none (.pure (.mv (.t 4)))), 
  (.mk (some 15) none (.call 62 [(.t 14)])), 
  (.mk (some 16) none (.pure (.sbin .eql (.t 15) (.c (.s []))))), 
  (.mk (some 2) none (.pure (.mv (.t 16)))), 
  (.mk (some 3) none (.pure (.mv (.c (.i .i64 0)))))]) .ret)))))
def fn34 : AFn := (AFn.mk 45 [(.t 4), (.t 5), (.t 6)] (.seq (.ops [
  (.mk (some 4) none (.pure (.mv (.c (.i .i64 0))))), 
  (.mk (some 5) none (.pure (.mv (.c (.i .i64 0))))), 
  (.mk (some 6) none (.pure (.mv (.c (.i .i64 0)))))]) (.seq (.ops [
  (.mk (some 14) none (.pure (.mv (.t 0)))), 
  (.mk (some 15) none (.pure (.mv (.t 1)))), 
  (.mk (some 16) none (.call 45 [(.t 14), (.t 15)])), 
  (.mk (some 13) none (.pure (.mv (.t 16)))), 
  (.mk (some 17) none (.pure (.ext 0 (.t 13)))), 
  (.mk (some 18) none (.pure (.ext 1 (.t 13)))), 
  (.mk (some 7) none (.pure (.mv (.t 17)))), 
  (.mk (some 8) none (.pure (.mv (.t 18))))]) (.seq (.seq (.ops [
  (.mk (some 19) none (.pure (.mv (.t 8)))), 
  (.mk (some 20) none (.pure (.bin .neq (.t 19) (.c (.i .i64 0)))))]) (.cond (.t 20) (.seq (.ops [
  (.mk (some 21) none (.pure (.mv (.t 8)))), 
  (.mk (some 4) none (.pure (.mv (.c (.i .i64 0))))), 
  (.mk (some 5) none (.pure (.mv (.c (.i .i64 0))))), 
  (.mk (some 6) none (.pure (.mv (.t 21))))]) .ret) .skip)) (.seq (.seq (.ops [
  (.mk (some 22) none (.pure (.mv (.t 1)))), 
  (.mk (some 23) none (.pure (.len true (.t 22)))), 
  (.mk (some 24) none (.pure (.bin .gtr (.t 23) (.c (.i .i64 16)))))]) (.cond (.t 24) (.seq (.ops [
  (.mk (some 4) none (.pure (.mv (.c (.i .i64 0))))), 
  (.mk (some 5) none (.pure (.mv (.c (.i .i64 0))))), 
  (.mk (some 6) none (.pure (.mv (.c (.i .i64 2)))))]) .ret) .skip)) (.seq (.ops [
  (.mk (some 25) none .mkm), 
  (.mk (some 9) none (.pure (.mv (.t 25))))]) (.seq (.ops [
  (.mk (some 10) none (.pure (.mv (.c (.i .i64 0)))))]) (.block 0 (.loop (.seq (.block 1 (.seq (.seq (.ops [
  (.mk (some 29) none (.pure (.mv (.t 9)))), 
  (.mk (some 30) none (.pure (.mv (.t 1)))), 
  (.mk (some 31) none (.mlk true (.i .i64 0) (.t 29) (.t 30))), 
  (.mk (some 28) none (.pure (.mv (.t 31)))), 
  (.mk (some 32) none (.pure (.ext 0 (.t 28)))), 
  (.mk (some 33) none (.pure (.ext 1 (.t 28)))), 
  (.mk (some 11) none (.pure (.mv (.t 32)))), 
  (.mk (some 12) none (.pure (.mv (.t 33))))]) (.seq (.ops [
  (.mk (some 34) none (.pure (.mv (.t 12))))]) (.cond (.t 34) (.seq (.ops [
  (.mk (some 35) none (.pure (.mv (.t 11)))), 
  (.mk (some 36) none (.pure (.mv (.t 10)))), 
  (.mk (some 37) none (.pure (.mv (.t 11)))), 
  (.mk (some 38) none (.pure (.bin .sub (.t 36) (.t 37)))), 
  (.mk (some 4) none (.pure (.mv (.t 35)))), 
  (.mk (some 5) none (.pure (.mv (.t 38)))), 
  (.mk (some 6) none (.pure (.mv (.c (.i .i64 0)))))]) .ret) .skip))) (.seq (.ops [
  (.mk (some 39) none (.pure (.mv (.t 9)))), 
  (.mk (some 40) none (.pure (.mv (.t 1)))), 
  (.mk (some 41) none (.pure (.mv (.t 10)))), 
  (.mk none none (.mup (.t 39) (.t 40) (.t 41)))]) (.ops [
  (.mk (some 42) none (.pure (.mv (.t 7)))), 
  (.mk (some 43) none (.pure (.mv (.t 1)))), 
  (.mk (some 44) none (.call 51 [(.t 42), (.t 43)])), 
  (.mk (some 1) none (.pure (.mv (.t 44))))])))) (.ops [
  (.mk (some 26) none (.pure (.mv (.t 10)))), 
  (.mk (some 27) none (.pure (.bin .add (.t 26) (.c (.i .i64 1))))), 
  (.mk (some 10) none (.pure (.mv (.t 27))))])))))))))))
def fn35 : AFn := (AFn.mk 54 [(.t 4), (.t 5), (.t 6)] (.seq (.ops [
  (.mk (some 4) none (.pure (.mv (.c (.i .i64 0))))), 
  (.mk (some 5) none (.pure (.mv (.c (.i .i64 0))))), 
  (.mk (some 6) none (.pure (.mv (.c (.i .i64 0)))))]) (.seq (.ops [
  (.mk (some 12) none (.pure (.mv (.t 0)))), 
  (.mk (some 13) none (.pure (.mv (.t 1)))), 
  (.mk (some 14) none (.call 47 [(.t 12), (.t 13), (.c (.i .i64 400))])), 
  (.mk (some 7) none (.pure (.mv (.t 14))))]) (.seq (.seq (.ops [
  (.mk (some 15) none (.pure (.mv (.t 7)))), 
  (.mk (some 16) none (.pure (.bin .neq (.t 15) (.c (.i .i64 0)))))]) (.cond (.t 16) (.seq (.ops [
  (.mk (some 17) none (.pure (.mv (.t 7)))), 
  (.mk (some 4) none (.pure (.mv (.c (.i .i64 0))))), 
  (.mk (some 5) none (.pure (.mv (.c (.i .i64 0))))), 
  (.mk (some 6) none (.pure (.mv (.t 17))))]) .ret) .skip)) (.seq (.seq (.ops [
  (.mk (some 18) none (.pure (.mv (.t 1)))), 
  (.mk (some 19) none (.pure (.len true (.t 18)))), 
  (.mk (some 20) none (.pure (.bin .gtr (.t 19) (.c (.i .i64 16)))))]) (.cond (.t 20) (.seq (.ops [
  (.mk (some 4) none (.pure (.mv (.c (.i .i64 0))))), 
  (.mk (some 5) none (.pure (.mv (.c (.i .i64 0))))), 
  (.mk (some 6) none (.pure (.mv (.c (.i .i64 2)))))]) .ret) .skip)) (.seq (.ops [
  (.mk (some 21) none (.pure (.mv (.t 1)))), 
  (.mk (some 22) none (.pure (.len true (.t 21)))), 
  (.mk (some 23) none (.pure (.bin .shl (.c (.i .i64 1)) (.t 22)))), 
  (.mk (some 24) none (.mk 3 1 8 [(.i .i64 0)] (.t 23) (.t 23))), 
  (.mk (some 8) none (.pure (.mv (.t 24))))]) (.seq (.ops [
  (.mk (some 25) none (.pure (.mv (.t 1)))), 
  (.mk (some 26) none (.call 48 [(.t 25)])), 
  (.mk (some 9) none (.pure (.mv (.t 26))))]) (.seq (.ops [
  (.mk (some 10) none (.pure (.mv (.c (.i .i64 1)))))]) (.block 0 (.loop (.seq (.block 1 (.seq (.ops [
  (.mk (some 29) none (.pure (.mv (.t 9)))), 
  (.mk (some 30) none (.call 67 [(.t 29)])), 
  (.mk (some 11) none (.pure (.mv (.t 30))))]) (.seq (.seq (.ops [
  (.mk (some 31) none (.pure (.mv (.t 8)))), 
  (.mk (some 32) none (.pure (.mv (.t 11)))), 
  (.mk (some 33) none (.pure (.ixS 1 (.t 31) (.t 32)))), 
  (.mk (some 34) none (.ld true 1 (.t 33))), 
  (.mk (some 35) none (.pure (.bin .gtr (.t 34) (.c (.i .i64 0)))))]) (.cond (.t 35) (.seq (.any [(
  (.mk (some 36) none (.pure (.mv (.t 8)))), false), (
  (.mk (some 37) none (.pure (.mv (.t 11)))), false), (
  (.mk (some 38) none (.pure (.ixS 1 (.t 36) (.t 37)))), false), (
  (.mk (some 39) none (.ld true 1 (.t 38))), false), (
  (.mk (some 40) none (.pure (.bin .sub (.t 39) (.c (.i .i64 1))))), false), (
  (.mk (some 41) none (.pure (.mv (.t 10)))), false), (
  (.mk (some 42) none (.pure (.mv (.t 8)))), false), (
  (.mk (some 43) none (.pure (.mv (.t 11)))), false), (
  (.mk (some 44) none (.pure (.ixS 1 (.t 42) (.t 43)))), false), (
  (.mk (some 45) none (.ld true 1 (.t 44))), false), (
  (.mk (some 46) none (.pure (.bin .sub (.t 41) (.t 45)))), false), (
  (.mk (some 4) none (.pure (.mv (.t 40)))), false), (
  (.mk (some 5) none (.pure (.mv (.t 46)))), false), (
  (.mk (some 6) none (.pure (.mv (.c (.i .i64 0))))), false)]) .ret) .skip)) (.seq (.ops [
  (.mk (some 47) none (.pure (.mv (.t 8)))), 
  (.mk (some 48) none (.pure (.mv (.t 11)))), 
  (.mk (some 49) none (.pure (.mv (.t 10)))), 
  (.mk (some 50) none (.pure (.ixS 1 (.t 47) (.t 48)))), 
  (.mk none none (.st 1 (.t 50) (.t 49)))]) (.ops [
  (.mk (some 51) none (.pure (.mv (.t 0)))), 
  (.mk (some 52) none (.pure (.mv (.t 9)))), 
  (.mk (some 53) none (.call 52 [(.t 51), (.t 52)])), 
  (.mk (some 9) none (.pure (.mv (.t 53))))]))))) (.ops [
  (.mk (some 27) none (.pure (.mv (.t 10)))), 
  (.mk (some 28) none (.pure (.bin .add (.t 27) (.c (.i .i64 1))))), 
  (.mk (some 10) none (.pure (.mv (.t 28))))]))))))))))))
def fn36 : AFn := (AFn.mk 26 [(.t 2), (.t 3), (.t 4)] (.seq (.ops [
  (.mk (some 2) none (.pure (.mv (.c (.i .i64 0))))), 
  (.mk (some 3) none (.pure (.mv (.c (.i .i64 0))))), 
  (.mk (some 4) none (.pure (.mv (.c (.i .i64 0)))))]) (.seq (.ops [
  (.mk (some 10) none (.pure (.mv (.t 0)))), 
  (.mk (some 11) none (.call 61 [(.t 10)])), 
  (.mk (some 9) none (.pure (.mv (.t 11)))), 
  (.mk (some 12) none (.pure (.ext 0 (.t 9)))), 
  (.mk (some 13) none (.pure (.ext 1 (.t 9)))), 
  (.mk (some 5) none (.pure (.mv (.t 12)))), 
  (.mk (some 6) none (.pure (.mv (.t 13))))]) (.seq (.seq (.ops [
  (.mk (some 14) none (.pure (.mv (.t 6)))), 
  (.mk (some 15) none (.pure (.bin .neq (.t 14) (.c (.i .i64 0)))))]) (.cond (.t 15) (.seq (.ops [
  (.mk (some 16) none (.pure (.mv (.t 6)))), 
  (.mk (some 2) none (.pure (.mv (.c (.i .i64 0))))), 
  (.mk (some 3) none (.pure (.mv (.c (.i .i64 0))))), 
  (.mk (some 4) none (.pure (.mv (.t 16))))]) .ret) .skip)) (.seq (.ops [
  (.mk (some 18) none (.pure (.mv (.t 5)))), 
  (.mk (some 19) none (.call 69 [(.t 18)])), 
  (.mk (some 17) none (.pure (.mv (.t 19)))), 
  (.mk (some 20) none (.pure (.ext 0 (.t 17)))), 
  (.mk (some 21) none (.pure (.ext 1 (.t 17)))), 
  (.mk (some 7) none (.pure (.mv (.t 20)))), 
  (.mk (some 8) none (.pure (.mv (.t 21))))]) (.seq (.ops [
  (.mk (some 22) none (.pure (.mv (.t 7)))), 
  (.mk (some 23) none (.pure (.conv .i64 (.t 22)))), 
  (.mk (some 24) none (.pure (.mv (.t 8)))), 
  (.mk (some 25) none (.pure (.conv .i64 (.t 24)))), 
  (.mk (some 2) none (.pure (.mv (.t 23)))), 
  (.mk (some 3) none (.pure (.mv (.t 25)))), 
  (.mk (some 4) none (.pure (.mv (.c (.i .i64 0)))))]) .ret))))))
def fn43 : AFn := (AFn.mk 29 [(.t 4)] (.seq (.ops [
  (.mk (some 4) none (.pure (.mv (.c (.i .i64 0)))))]) (.seq (.seq (.ops [
  (.mk (some 6) none (.pure (.mv (.t 0)))), 
  (.mk (some 7) none (.pure (.len true (.t 6)))), 
  (.mk (some 8) none (.pure (.mv (.t 1)))), 
  (.mk (some 9) none (.pure (.bin .gtr (.t 7) (.t 8))))]) (.cond (.t 9) (.seq (.ops [
  (.mk (some 4) none (.pure (.mv (.c (.i .i64 3)))))]) .ret) .skip)) (.seq (.seq (.ops [
  (.mk (some 10) none (.pure (.mv (.t 0)))), 
  (.mk (some 11) none (.pure (.len true (.t 10)))), 
  (.mk (some 12) none (.pure (.bin .eql (.t 11) (.c (.i .i64 0)))))]) (.cond (.t 12) (.seq (.ops [
  (.mk (some 4) none (.pure (.mv (.c (.i .i64 5)))))]) .ret) .skip)) (.seq (.seq (.ops [
  (.mk (some 5) none (.pure (.mv (.c (.i .i64 0)))))]) (.block 0 (.loop (.seq (.seq (.ops [
  (.mk (some 13) none (.pure (.mv (.t 5)))), 
  (.mk (some 14) none (.pure (.mv (.t 0)))), 
  (.mk (some 15) none (.pure (.len true (.t 14)))), 
  (.mk (some 16) none (.pure (.bin .lss (.t 13) (.t 15))))]) (.cond (.t 16) .skip (.exit 0))) (.seq (.block 1 (.seq (.ops [
  (.mk (some 19) none (.pure (.mv (.t 0)))), 
  (.mk (some 20) none (.pure (.mv (.t 5)))), 
  (.mk (some 21) none (.pure (.ixStr (.t 19) (.t 20)))), 
  (.mk (some 22) none (.pure (.bin .neq (.t 21) (.c (.i .u8 48))))), 
  (.mk (some 23) none (.pure (.mv (.t 22)))), 
  (.mk (some 24) (some (23, true)) (.pure (.mv (.t 0)))), 
  (.mk (some 25) (some (23, true)) (.pure (.mv (.t 5)))), 
  (.mk (some 26) (some (23, true)) (.pure (.ixStr (.t 24) (.t 25)))), 
  (.mk (some 27) (some (23, true)) (.pure (.bin .neq (.t 26) (.c (.i .u8 49))))), 
  (.mk (some 28) none (.pure (.pick (.t 23) (.t 27) (.c (.b false)))))]) (.cond (.t 28) (.seq (.ops [
  (.mk (some 4) none (.pure (.mv (.c (.i .i64 5)))))]) .ret) .skip))) (.ops [
  (.mk (some 17) none (.pure (.mv (.t 5)))), 
  (.mk (some 18) none (.pure (.bin .add (.t 17) (.c (.i .i64 1))))), 
  (.mk (some 5) none (.pure (.mv (.t 18))))])))))) (.seq (.ops [
  (.mk (some 4) none (.pure (.mv (.c (.i .i64 0)))))]) .ret))))))
def fn45 : AFn := (AFn.mk 39 [(.t 4), (.t 5)] (.seq (.ops [
  (.mk (some 4) none (.pure (.mv (.c (.i .u8 0))))), 
  (.mk (some 5) none (.pure (.mv (.c (.i .i64 0)))))]) (.seq (.ops [
  (.mk (some 10) none (.pure (.mv (.t 0)))), 
  (.mk (some 11) none (.call 61 [(.t 10)])), 
  (.mk (some 9) none (.pure (.mv (.t 11)))), 
  (.mk (some 12) none (.pure (.ext 0 (.t 9)))), 
  (.mk (some 13) none (.pure (.ext 1 (.t 9)))), 
  (.mk (some 6) none (.pure (.mv (.t 12)))), 
  (.mk (some 7) none (.pure (.mv (.t 13))))]) (.seq (.seq (.ops [
  (.mk (some 14) none (.pure (.mv (.t 7)))), 
  (.mk (some 15) none (.pure (.bin .neq (.t 14) (.c (.i .i64 0)))))]) (.cond (.t 15) (.seq (.ops [
  (.mk (some 16) none (.pure (.mv (.t 7)))), 
  (.mk (some 4) none (.pure (.mv (.c (.i .u8 0))))), 
  (.mk (some 5) none (.pure (.mv (.t 16))))]) .ret) .skip)) (.seq (.seq (.ops [
  (.mk (some 17) none (.pure (.mv (.t 1)))), 
  (.mk (some 18) none (.pure (.len true (.t 17)))), 
  (.mk (some 19) none (.pure (.bin .gtr (.t 18) (.c (.i .i64 400)))))]) (.cond (.t 19) (.seq (.ops [
  (.mk (some 4) none (.pure (.mv (.c (.i .u8 0))))), 
  (.mk (some 5) none (.pure (.mv (.c (.i .i64 3)))))]) .ret) .skip)) (.seq (.seq (.ops [
  (.mk (some 20) none (.pure (.mv (.t 1)))), 
  (.mk (some 21) none (.pure (.sbin .eql (.t 20) (.c (.s [])))))]) (.cond (.t 21) (.seq (.ops [
  (.mk (some 4) none (.pure (.mv (.c (.i .u8 0))))), 
  (.mk (some 5) none (.pure (.mv (.c (.i .i64 5)))))]) .ret) .skip)) (.seq (.seq (.ops [
  (.mk (some 22) none (.pure (.mv (.t 1)))), 
  (.mk (some 23) none (.pure (.len true (.t 22)))), 
  (.mk (some 24) none (.pure (.mv (.c (.i .i64 0)))))]) (.block 0 (.loop (.seq (.ops [
  (.mk (some 25) none (.pure (.bin .lss (.t 24) (.t 23))))]) (.seq (.cond (.t 25) .skip (.exit 0)) (.seq (.block 1 (.seq (.ops [
  (.mk (some 26) none (.pure (.mv (.t 24)))), 
  (.mk (some 8) none (.pure (.mv (.t 26))))]) (.seq (.ops [
  (.mk (some 27) none (.pure (.mv (.t 1)))), 
  (.mk (some 28) none (.pure (.mv (.t 8)))), 
  (.mk (some 29) none (.pure (.ixStr (.t 27) (.t 28)))), 
  (.mk (some 30) none (.pure (.bin .neq (.t 29) (.c (.i .u8 48))))), 
  (.mk (some 31) none (.pure (.mv (.t 30)))), 
  (.mk (some 32) (some (31, true)) (.pure (.mv (.t 1)))), 
  (.mk (some 33) (some (31, true)) (.pure (.mv (.t 8)))), 
  (.mk (some 34) (some (31, true)) (.pure (.ixStr (.t 32) (.t 33)))), 
  (.mk (some 35) (some (31, true)) (.pure (.bin .neq (.t 34) (.c (.i .u8 49))))), 
  (.mk (some 36) none (.pure (.pick (.t 31) (.t 35) (.c (.b false)))))]) (.cond (.t 36) (.seq (.ops [
  (.mk (some 4) none (.pure (.mv (.c (.i .u8 0))))), 
  (.mk (some 5) none (.pure (.mv (.c (.i .i64 5)))))]) .ret) .skip)))) (.ops [
  (.mk (some 37) none (.pure (.bin .add (.t 24) (.c (.i .i64 1))))), 
  (.mk (some 24) none (.pure (.mv (.t 37))))]))))))) (.seq (.ops [
  (.mk (some 38) none (.pure (.mv (.t 6)))), 
  (.mk (some 4) none (.pure (.mv (.t 38)))), 
  (.mk (some 5) none (.pure (.mv (.c (.i .i64 0)))))]) .ret))))))))
def fn46 : AFn := (AFn.mk 43 [(.t 4)] (.seq (.ops [
  (.mk (some 4) none (.pure (.mv (.c (.s [])))))]) (.seq (.ops [
  (.mk (some 7) none (.pure (.mv (.t 1)))), 
  (.mk (some 8) none (.pure (.len true (.t 7)))), 
  (.mk (some 9) none (.pure (.bin .sub (.t 8) (.c (.i .i64 2))))), 
  (.mk (some 10) none (.mk 5 1 1 [(.i .u8 0)] (.t 9) (.t 9))), 
  (.mk (some 5) none (.pure (.mv (.t 10))))]) (.seq (.seq (.ops [
  (.mk (some 11) none (.pure (.mv (.t 5)))), 
  (.mk (some 12) none (.pure (.len false (.t 11)))), 
  (.mk (some 13) none (.pure (.mv (.c (.i .i64 0)))))]) (.block 0 (.loop (.seq (.ops [
  (.mk (some 14) none (.pure (.bin .lss (.t 13) (.t 12))))]) (.seq (.cond (.t 14) .skip (.exit 0)) (.seq (.block 1 (.seq (.ops [
  (.mk (some 15) none (.pure (.mv (.t 13)))), 
  (.mk (some 6) none (.pure (.mv (.t 15))))]) (.ops [
  (.mk (some 16) none (.pure (.mv (.t 5)))), 
  (.mk (some 17) none (.pure (.mv (.t 6)))), 
  (.mk (some 18) none (.pure (.mv (.t 0)))), 
  (.mk (some 19) none (.pure (.mv (.t 1)))), 
  (.mk (some 20) none (.pure (.mv (.t 6)))), 
  (.mk (some 21) none (.pure (.ixStr (.t 19) (.t 20)))), 
  (.mk (some 24) none (.pure (.mv (.t 1)))), 
  (.mk (some 25) none (.pure (.mv (.t 6)))), 
  (.mk (some 26) none (.pure (.bin .add (.t 25) (.c (.i .i64 1))))), 
  (.mk (some 27) none (.pure (.ixStr (.t 24) (.t 26)))), 
  (.mk (some 31) none (.pure (.mv (.t 1)))), 
  (.mk (some 32) none (.pure (.mv (.t 6)))), 
  (.mk (some 33) none (.pure (.bin .add (.t 32) (.c (.i .i64 2))))), 
  (.mk (some 34) none (.pure (.ixStr (.t 31) (.t 33)))), 
  (.mk (some 22) none (.call 73 [(.t 21)])), 
  (.mk (some 23) none (.pure (.bin .mul (.c (.i .i64 4)) (.t 22)))), 
  (.mk (some 28) none (.call 73 [(.t 27)])), 
  (.mk (some 29) none (.pure (.bin .mul (.c (.i .i64 2)) (.t 28)))), 
  (.mk (some 30) none (.pure (.bin .add (.t 23) (.t 29)))), 
  (.mk (some 35) none (.call 73 [(.t 34)])), 
  (.mk (some 36) none (.pure (.bin .add (.t 30) (.t 35)))), 
  (.mk (some 37) none (.call 72 [(.t 18), (.t 36)])), 
  (.mk (some 38) none (.call 71 [(.t 37)])), 
  (.mk (some 39) none (.pure (.ixS 1 (.t 16) (.t 17)))), 
  (.mk none none (.st 1 (.t 39) (.t 38)))]))) (.ops [
  (.mk (some 40) none (.pure (.bin .add (.t 13) (.c (.i .i64 1))))), 
  (.mk (some 13) none (.pure (.mv (.t 40))))]))))))) (.seq (.ops [
  (.mk (some 41) none (.pure (.mv (.t 5)))), 
  (.mk (some 42) none (.bts (.t 41))), 
  (.mk (some 4) none (.pure (.mv (.t 42))))]) .ret)))))
def fn47 : AFn := (AFn.mk 13 [(.t 6)] (.seq (.ops [
  (.mk (some 6) none (.pure (.mv (.c (.i .i64 0)))))]) (.seq (.seq (.ops [
  (.mk (some 7) none (.pure (.mv (.t 0)))), 
  (.mk (some 8) none (.call 54 [(.t 7)])), 
  (.mk (some 9) none (.pure (.not (.t 8))))]) (.cond (.t 9) (.seq (.ops [
  (.mk (some 6) none (.pure (.mv (.c (.i .i64 2)))))]) .ret) .skip)) (.seq (.ops [
  (.mk (some 10) none (.pure (.mv (.t 1)))), 
  (.mk (some 11) none (.pure (.mv (.t 2)))), 
  (.mk (some 12) none (.call 43 [(.t 10), (.t 11)])), 
  (.mk (some 6) none (.pure (.mv (.t 12))))]) .ret))))
def fn48 : AFn := (AFn.mk 20 [(.t 2)] (.seq (.ops [
  (.mk (some 2) none (.pure (.mv (.c .nsl))))]) (.seq (.ops [
  (.mk (some 3) none (.pure (.mv (.c .nsl))))]) (.seq (.seq (.ops [
  (.mk (some 4) none (.pure (.mv (.c (.i .i64 0)))))]) (.block 0 (.loop (.seq (.seq (.ops [
  (.mk (some 5) none (.pure (.mv (.t 4)))), 
  (.mk (some 6) none (.pure (.mv (.t 0)))), 
  (.mk (some 7) none (.pure (.len true (.t 6)))), 
  (.mk (some 8) none (.pure (.bin .lss (.t 5) (.t 7))))]) (.cond (.t 8) .skip (.exit 0))) (.seq (.block 1 (.ops [
  (.mk (some 11) none (.pure (.mv (.t 3)))), 
  (.mk (some 12) none (.pure (.mv (.t 0)))), 
  (.mk (some 13) none (.pure (.mv (.t 4)))), 
  (.mk (some 14) none (.pure (.ixStr (.t 12) (.t 13)))), 
  (.mk (some 15) none (.pure (.bin .sub (.t 14) (.c (.i .u8 48))))), 
  (.mk (some 16) none (.pure (.conv .i64 (.t 15)))), 
  (.mk (some 17) none (.bsl 3 1 [(.i .i64 0)] 1 [((0, 1), (.t 16))])), 
  (.mk (some 18) none (.app 3 1 8 [(.i .i64 0)] (.t 11) (.t 17))), 
  (.mk (some 3) none (.pure (.mv (.t 18))))])) (.ops [
  (.mk (some 9) none (.pure (.mv (.t 4)))), 
  (.mk (some 10) none (.pure (.bin .add (.t 9) (.c (.i .i64 1))))), 
  (.mk (some 4) none (.pure (.mv (.t 10))))])))))) (.seq (.ops [
  (.mk (some 19) none (.pure (.mv (.t 3)))), 
  (.mk (some 2) none (.pure (.mv (.t 19))))]) .ret)))))
def fn49 : AFn := (AFn.mk 19 [(.t 8)] (.seq (.ops [
  (.mk (some 8) none (.pure (.mv (.c (.i .i64 0)))))]) (.seq (.ops [
  (.mk (some 9) none (.pure (.mv (.t 0)))), 
  (.mk (some 10) none (.pure (.mv (.t 1)))), 
  (.mk (some 11) none (.pure (.bin .mul (.c (.i .i64 4)) (.t 10)))), 
  (.mk (some 12) none (.pure (.mv (.t 2)))), 
  (.mk (some 13) none (.pure (.bin .mul (.c (.i .i64 2)) (.t 12)))), 
  (.mk (some 14) none (.pure (.bin .add (.t 11) (.t 13)))), 
  (.mk (some 15) none (.pure (.mv (.t 3)))), 
  (.mk (some 16) none (.pure (.bin .add (.t 14) (.t 15)))), 
  (.mk (some 17) none (.pure (.bin .shr (.t 9) (.t 16)))), 
  (.mk (some 18) none (.pure (.bin .rem (.t 17) (.c (.i .i64 2))))), 
  (.mk (some 8) none (.pure (.mv (.t 18))))]) .ret)))
def fn51 : AFn := (AFn.mk 17 [(.t 4)] (.seq (.ops [
  (.mk (some 4) none (.pure (.mv (.c (.s [])))))]) (.seq (.ops [
  (.mk (some 5) none (.pure (.mv (.t 0)))), 
  (.mk (some 6) none (.pure (.mv (.t 1)))), 
  (.mk (some 7) none (.pure (.mv (.t 1)))), 
  (.mk (some 8) none (.pure (.len true (.t 7)))), 
  (.mk (some 9) none (.pure (.bin .sub (.t 8) (.c (.i .i64 1))))), 
  (.mk (some 10) none (.pure (.slStr (.t 6) (some (.t 9)) none))), 
  (.mk (some 11) none (.pure (.mv (.t 1)))), 
  (.mk (some 12) none (.pure (.sbin .add (.t 10) (.t 11)))), 
  (.mk (some 13) none (.pure (.mv (.t 1)))), 
  (.mk (some 14) none (.pure (.slStr (.t 13) none (some (.c (.i .i64 1)))))), 
  (.mk (some 15) none (.pure (.sbin .add (.t 12) (.t 14)))), 
  (.mk (some 16) none (.call 46 [(.t 5), (.t 15)])), 
  (.mk (some 4) none (.pure (.mv (.t 16))))]) .ret)))
def fn52 : AFn := (AFn.mk 41 [(.t 4)] (.seq (.ops [
  (.mk (some 4) none (.pure (.mv (.c .nsl))))]) (.seq (.ops [
  (.mk (some 8) none (.pure (.mv (.t 1)))), 
  (.mk (some 9) none (.pure (.len false (.t 8)))), 
  (.mk (some 5) none (.pure (.mv (.t 9))))]) (.seq (.ops [
  (.mk (some 6) none (.pure (.mv (.c .nsl))))]) (.seq (.seq (.ops [
  (.mk (some 7) none (.pure (.mv (.c (.i .i64 0)))))]) (.block 0 (.loop (.seq (.seq (.ops [
  (.mk (some 10) none (.pure (.mv (.t 7)))), 
  (.mk (some 11) none (.pure (.mv (.t 5)))), 
  (.mk (some 12) none (.pure (.bin .lss (.t 10) (.t 11))))]) (.cond (.t 12) .skip (.exit 0))) (.seq (.block 1 (.seq (.ops [
  (.mk (some 15) none (.pure (.mv (.t 6)))), 
  (.mk (some 16) none (.pure (.mv (.t 0)))), 
  (.mk (some 17) none (.pure (.mv (.t 1)))), 
  (.mk (some 18) none (.pure (.mv (.t 7)))), 
  (.mk (some 19) none (.pure (.mv (.t 5)))), 
  (.mk (some 20) none (.pure (.bin .add (.t 18) (.t 19)))), 
  (.mk (some 21) none (.pure (.bin .sub (.t 20) (.c (.i .i64 1))))), 
  (.mk (some 22) none (.pure (.mv (.t 5)))), 
  (.mk (some 23) none (.pure (.bin .rem (.t 21) (.t 22)))), 
  (.mk (some 24) none (.pure (.ixS 1 (.t 17) (.t 23)))), 
  (.mk (some 26) none (.pure (.mv (.t 1)))), 
  (.mk (some 27) none (.pure (.mv (.t 7)))), 
  (.mk (some 28) none (.pure (.ixS 1 (.t 26) (.t 27)))), 
  (.mk (some 30) none (.pure (.mv (.t 1)))), 
  (.mk (some 31) none (.pure (.mv (.t 7)))), 
  (.mk (some 32) none (.pure (.bin .add (.t 31) (.c (.i .i64 1))))), 
  (.mk (some 33) none (.pure (.mv (.t 5)))), 
  (.mk (some 34) none (.pure (.bin .rem (.t 32) (.t 33)))), 
  (.mk (some 35) none (.pure (.ixS 1 (.t 30) (.t 34))))]) (.seq (.any [(
  (.mk (some 25) none (.ld true 1 (.t 24))), false), (
  (.mk (some 29) none (.ld true 1 (.t 28))), false), (
  (.mk (some 36) none (.ld true 1 (.t 35))), false)]) (.ops [
  (.mk (some 37) none (.call 49 [(.t 16), (.t 25), (.t 29), (.t 36)])), 
  (.mk (some 38) none (.bsl 3 1 [(.i .i64 0)] 1 [((0, 1), (.t 37))])), 
  (.mk (some 39) none (.app 3 1 8 [(.i .i64 0)] (.t 15) (.t 38))), 
  (.mk (some 6) none (.pure (.mv (.t 39))))])))) (.ops [
  (.mk (some 13) none (.pure (.mv (.t 7)))), 
  (.mk (some 14) none (.pure (.bin .add (.t 13) (.c (.i .i64 1))))), 
  (.mk (some 7) none (.pure (.mv (.t 14))))])))))) (.seq (.ops [
  (.mk (some 40) none (.pure (.mv (.t 6)))), 
  (.mk (some 4) none (.pure (.mv (.t 40))))]) .ret))))))
def fn54 : AFn := (AFn.mk 9 [(.t 2)] (.seq (.ops [
  (.mk (some 2) none (.pure (.mv (.c (.b false)))))]) (.seq (.ops [
  (.mk (some 3) none (.pure (.mv (.t 0)))), 
  (.mk (some 4) none (.pure (.bin .geq (.t 3) (.c (.i .i64 0))))), 
  (.mk (some 5) none (.pure (.mv (.t 4)))), 
  (.mk (some 6) (some (5, true)) (.pure (.mv (.t 0)))), 
  (.mk (some 7) (some (5, true)) (.pure (.bin .leq (.t 6) (.c (.i .i64 255))))), 
  (.mk (some 8) none (.pure (.pick (.t 5) (.t 7) (.c (.b false))))), 
  (.mk (some 2) none (.pure (.mv (.t 8))))]) .ret)))
def fn61 : AFn := (AFn.mk 12 [(.t 2), (.t 3)] (.seq (.ops [
  (.mk (some 2) none (.pure (.mv (.c (.i .u8 0))))), 
  (.mk (some 3) none (.pure (.mv (.c (.i .i64 0)))))]) (.seq (.seq (.ops [
  (.mk (some 4) none (.pure (.mv (.t 0)))), 
  (.mk (some 5) none (.pure (.bin .lss (.t 4) (.c (.i .i64 0))))), 
  (.mk (some 6) none (.pure (.mv (.t 5)))), 
  (.mk (some 7) (some (6, false)) (.pure (.mv (.t 0)))), 
  (.mk (some 8) (some (6, false)) (.pure (.bin .gtr (.t 7) (.c (.i .i64 255))))), 
  (.mk (some 9) none (.pure (.pick (.t 6) (.c (.b true)) (.t 8))))]) (.cond (.t 9) (.seq (.ops [
  (.mk (some 2) none (.pure (.mv (.c (.i .u8 0))))), 
  (.mk (some 3) none (.pure (.mv (.c (.i .i64 2)))))]) .ret) .skip)) (.seq (.ops [
  (.mk (some 10) none (.pure (.mv (.t 0)))), 
  (.mk (some 11) none (.pure (.conv .u8 (.t 10)))), 
  (.mk (some 2) none (.pure (.mv (.t 11)))), 
  (.mk (some 3) none (.pure (.mv (.c (.i .i64 0)))))]) .ret))))
def fn62 : AFn := (AFn.mk 56 [(.t 2)] (.seq (.ops [
  (.mk (some 2) none (.pure (.mv (.c (.s [])))))]) (.seq (.ops [
  (.mk (some 8) none (.pure (.build [(.b false), (.b false), (.b false), (.b false), (.b false), (.b false), (.b false), (.b false), (.b false), (.b false), (.b false), (.b false), (.b false), (.b false), (.b false), (.b false)] [((15, 1), (.c (.b true)))]))), 
  (.mk (some 3) none (.al 86 [(.b false), (.b false), (.b false), (.b false), (.b false), (.b false), (.b false), (.b false), (.b false), (.b false), (.b false), (.b false), (.b false), (.b false), (.b false), (.b false)])), 
  (.mk none none (.st 16 (.t 3) (.t 8)))]) (.seq (.ops [
  (.mk (some 9) none (.pure (.build [(.i .u8 0), (.s [])] [((0, 1), (.c (.i .u8 15))), ((1, 1), (.c (.s [])))]))), 
  (.mk (some 10) none (.bsl 88 2 [(.i .u8 0), (.s [])] 1 [((0, 2), (.t 9))])), 
  (.mk (some 4) none (.pure (.mv (.t 10))))]) (.seq (.seq (.ops [
  (.mk (some 5) none (.pure (.mv (.c (.i .i64 0)))))]) (.block 0 (.loop (.seq (.seq (.ops [
  (.mk (some 11) none (.pure (.mv (.t 5)))), 
  (.mk (some 12) none (.pure (.mv (.t 4)))), 
  (.mk (some 13) none (.pure (.len false (.t 12)))), 
  (.mk (some 14) none (.pure (.bin .lss (.t 11) (.t 13))))]) (.cond (.t 14) .skip (.exit 0))) (.seq (.block 1 (.seq (.ops [
  (.mk (some 17) none (.pure (.mv (.c (.i .i64 0)))))]) (.block 2 (.loop (.seq (.ops [
  (.mk (some 18) none (.pure (.bin .lss (.t 17) (.c (.i .i64 2)))))]) (.seq (.cond (.t 18) .skip (.exit 2)) (.seq (.block 3 (.seq (.ops [
  (.mk (some 19) none (.pure (.mv (.t 17)))), 
  (.mk (some 6) none (.pure (.mv (.t 19))))]) (.seq (.any [(
  (.mk (some 20) none (.pure (.mv (.t 0)))), false), (
  (.mk (some 21) none (.pure (.mv (.t 4)))), false), (
  (.mk (some 22) none (.pure (.mv (.t 5)))), false), (
  (.mk (some 23) none (.pure (.ixS 2 (.t 21) (.t 22)))), false), (
  (.mk (some 24) none (.pure (.faddr 0 (.t 23)))), false), (
  (.mk (some 25) none (.ld true 1 (.t 24))), false), (
  (.mk (some 26) none (.pure (.mv (.t 6)))), false), (
  (.mk (some 27) none (.call 78 [(.t 20), (.t 25), (.t 26)])), false), (
  (.mk (some 28) none (.pure (.mv (.t 4)))), false), (
  (.mk (some 29) none (.pure (.mv (.t 5)))), false), (
  (.mk (some 30) none (.pure (.ixS 2 (.t 28) (.t 29)))), false), (
  (.mk (some 31) none (.pure (.faddr 1 (.t 30)))), false), (
  (.mk (some 32) none (.ld true 1 (.t 31))), false), (
  (.mk (some 33) none (.pure (.mv (.t 6)))), false), (
  (.mk (some 34) none (.call 71 [(.t 33)])), false), (
  (.mk (some 35) none (.pure (.chr (.t 34)))), false), (
  (.mk (some 36) none (.pure (.sbin .add (.t 32) (.t 35)))), false), (
  (.mk (some 37) none (.pure (.build [(.i .u8 0), (.s [])] [((0, 1), (.t 27)), ((1, 1), (.t 36))]))), false), (
  (.mk (some 7) none (.al 88 [(.i .u8 0), (.s [])])), false), (
  (.mk none none (.st 2 (.t 7) (.t 37))), false)]) (.seq (.seq (.ops [
  (.mk (some 38) none (.pure (.faddr 0 (.t 7)))), 
  (.mk (some 39) none (.ld true 1 (.t 38))), 
  (.mk (some 40) none (.pure (.bin .eql (.t 39) (.c (.i .u8 0)))))]) (.cond (.t 40) (.seq (.ops [
  (.mk (some 41) none (.pure (.faddr 1 (.t 7)))), 
  (.mk (some 42) none (.ld true 1 (.t 41))), 
  (.mk (some 2) none (.pure (.mv (.t 42))))]) .ret) .skip)) (.seq (.ops [
  (.mk (some 43) none (.pure (.faddr 0 (.t 7)))), 
  (.mk (some 44) none (.ld true 1 (.t 43))), 
  (.mk (some 45) none (.pure (.ixA 16 1 (.t 3) (.t 44)))), 
  (.mk (some 46) none (.ld true 1 (.t 45))), 
  (.mk (some 47) none (.pure (.not (.t 46))))]) (.cond (.t 47) (.seq (.ops [
  (.mk (some 48) none (.pure (.faddr 0 (.t 7)))), 
  (.mk (some 49) none (.ld true 1 (.t 48))), 
  (.mk (some 50) none (.pure (.ixA 16 1 (.t 3) (.t 49)))), 
  (.mk none none (.st 1 (.t 50) (.c (.b true))))]) (.ops [
  (.mk (some 51) none (.pure (.mv (.t 4)))), 
  (.mk (some 52) none (.ld false 2 (.t 7))), 
  (.mk (some 53) none (.bsl 88 2 [(.i .u8 0), (.s [])] 1 [((0, 2), (.t 52))])), 
  (.mk (some 54) none (.app 88 2 24 [(.i .u8 0), (.s [])] (.t 51) (.t 53))), 
  (.mk (some 4) none (.pure (.mv (.t 54))))])) .skip)))))) (.ops [
  (.mk (some 55) none (.pure (.bin .add (.t 17) (.c (.i .i64 1))))), 
  (.mk (some 17) none (.pure (.mv (.t 55))))])))))))) (.ops [
  (.mk (some 15) none (.pure (.mv (.t 5)))), 
  (.mk (some 16) none (.pure (.bin .add (.t 15) (.c (.i .i64 1))))), 
  (.mk (some 5) none (.pure (.mv (.t 16))))])))))) (.seq (.ops [
  (.mk (some 2) none (.pure (.mv (.c (.s [])))))]) .ret))))))
def fn67 : AFn := (AFn.mk 19 [(.t 2)] (.seq (.ops [
  (.mk (some 2) none (.pure (.mv (.c (.i .i64 0)))))]) (.seq (.ops [
  (.mk (some 3) none (.pure (.mv (.c (.i .i64 0)))))]) (.seq (.seq (.ops [
  (.mk (some 4) none (.pure (.mv (.c (.i .i64 0)))))]) (.block 0 (.loop (.seq (.seq (.ops [
  (.mk (some 5) none (.pure (.mv (.t 4)))), 
  (.mk (some 6) none (.pure (.mv (.t 0)))), 
  (.mk (some 7) none (.pure (.len false (.t 6)))), 
  (.mk (some 8) none (.pure (.bin .lss (.t 5) (.t 7))))]) (.cond (.t 8) .skip (.exit 0))) (.seq (.block 1 (.ops [
  (.mk (some 11) none (.pure (.mv (.t 3)))), 
  (.mk (some 12) none (.pure (.bin .mul (.c (.i .i64 2)) (.t 11)))), 
  (.mk (some 13) none (.pure (.mv (.t 0)))), 
  (.mk (some 14) none (.pure (.mv (.t 4)))), 
  (.mk (some 15) none (.pure (.ixS 1 (.t 13) (.t 14)))), 
  (.mk (some 16) none (.ld true 1 (.t 15))), 
  (.mk (some 17) none (.pure (.bin .add (.t 12) (.t 16)))), 
  (.mk (some 3) none (.pure (.mv (.t 17))))])) (.ops [
  (.mk (some 9) none (.pure (.mv (.t 4)))), 
  (.mk (some 10) none (.pure (.bin .add (.t 9) (.c (.i .i64 1))))), 
  (.mk (some 4) none (.pure (.mv (.t 10))))])))))) (.seq (.ops [
  (.mk (some 18) none (.pure (.mv (.t 3)))), 
  (.mk (some 2) none (.pure (.mv (.t 18))))]) .ret)))))
def fn69 : AFn := (AFn.mk 8 [(.t 2), (.t 3)] (.seq (.ops [
  (.mk (some 2) none (.pure (.mv (.c (.i .u8 0))))), 
  (.mk (some 3) none (.pure (.mv (.c (.i .u8 0)))))]) (.seq (.ops [
  (.mk (some 4) none (.pure (.mv (.t 0)))), 
  (.mk (some 5) none (.call 82 [(.t 4), (.c (.fn 83 [] []))])), 
  (.mk (some 6) none (.pure (.mv (.t 0)))), 
  (.mk (some 7) none (.call 82 [(.t 6), (.c (.fn 84 [] []))])), 
  (.mk (some 2) none (.pure (.mv (.t 5)))), 
  (.mk (some 3) none (.pure (.mv (.t 7))))]) .ret)))
def fn71 : AFn := (AFn.mk 6 [(.t 2)] (.seq (.ops [
  (.mk (some 2) none (.pure (.mv (.c (.i .u8 0)))))]) (.seq (.ops [
  (.mk (some 3) none (.pure (.mv (.t 0)))), 
  (.mk (some 4) none (.pure (.conv .u8 (.t 3)))), 
  (.mk (some 5) none (.pure (.bin .add (.c (.i .u8 48)) (.t 4)))), 
  (.mk (some 2) none (.pure (.mv (.t 5))))]) .ret)))
def fn72 : AFn := (AFn.mk 10 [(.t 4)] (.seq (.ops [
  (.mk (some 4) none (.pure (.mv (.c (.i .i64 0)))))]) (.seq (.ops [
  (.mk (some 5) none (.pure (.mv (.t 0)))), 
  (.mk (some 6) none (.pure (.mv (.t 1)))), 
  (.mk (some 7) none (.pure (.bin .shr (.t 5) (.t 6)))), 
  (.mk (some 8) none (.pure (.conv .i64 (.t 7)))), 
  (.mk (some 9) none (.pure (.bin .and (.t 8) (.c (.i .i64 1))))), 
  (.mk (some 4) none (.pure (.mv (.t 9))))]) .ret)))
def fn73 : AFn := (AFn.mk 6 [(.t 2)] (.seq (.ops [
  (.mk (some 2) none (.pure (.mv (.c (.i .i64 0)))))]) (.seq (.ops [
  (.mk (some 3) none (.pure (.mv (.t 0)))), 
  (.mk (some 4) none (.pure (.bin .sub (.t 3) (.c (.i .u8 48))))), 
  (.mk (some 5) none (.pure (.conv .i64 (.t 4)))), 
  (.mk (some 2) none (.pure (.mv (.t 5))))]) .ret)))
def fn76 : AFn := (AFn.mk 10 [(.t 4)] (.seq (.ops [
  (.mk (some 4) none (.pure (.mv (.c (.b false)))))]) (.seq (.ops [
  (.mk (some 5) none (.pure (.mv (.t 0)))), 
  (.mk (some 6) none (.pure (.mv (.t 1)))), 
  (.mk (some 7) none (.pure (.bin .shr (.t 5) (.t 6)))), 
  (.mk (some 8) none (.pure (.bin .and (.t 7) (.c (.i .u8 1))))), 
  (.mk (some 9) none (.pure (.bin .eql (.t 8) (.c (.i .u8 1))))), 
  (.mk (some 4) none (.pure (.mv (.t 9))))]) .ret)))
def fn78 : AFn := (AFn.mk 30 [(.t 6)] (.seq (.ops [
  (.mk (some 6) none (.pure (.mv (.c (.i .u8 0)))))]) (.seq (.ops [
  (.mk (some 7) none (.pure (.mv (.c (.i .u8 0)))))]) (.seq (.seq (.ops [
  (.mk (some 9) none (.pure (.mv (.c (.i .i64 0)))))]) (.block 0 (.loop (.seq (.ops [
  (.mk (some 10) none (.pure (.bin .lss (.t 9) (.c (.i .i64 8)))))]) (.seq (.cond (.t 10) .skip (.exit 0)) (.seq (.block 1 (.seq (.ops [
  (.mk (some 11) none (.pure (.mv (.t 9)))), 
  (.mk (some 8) none (.pure (.mv (.t 11))))]) (.seq (.ops [
  (.mk (some 12) none (.pure (.mv (.t 1)))), 
  (.mk (some 13) none (.pure (.mv (.t 8)))), 
  (.mk (some 14) none (.pure (.bin .shr (.t 13) (.c (.i .u64 1))))), 
  (.mk (some 15) none (.call 76 [(.t 12), (.t 14)])), 
  (.mk (some 16) none (.pure (.mv (.t 15)))), 
  (.mk (some 17) (some (16, true)) (.pure (.mv (.t 0)))), 
  (.mk (some 18) (some (16, true)) (.pure (.mv (.t 8)))), 
  (.mk (some 19) (some (16, true)) (.call 72 [(.t 17), (.t 18)])), 
  (.mk (some 20) (some (16, true)) (.pure (.mv (.t 2)))), 
  (.mk (some 21) (some (16, true)) (.pure (.bin .eql (.t 19) (.t 20)))), 
  (.mk (some 22) none (.pure (.pick (.t 16) (.t 21) (.c (.b false)))))]) (.cond (.t 22) (.ops [
  (.mk (some 23) none (.pure (.mv (.t 7)))), 
  (.mk (some 24) none (.pure (.mv (.t 8)))), 
  (.mk (some 25) none (.pure (.bin .and (.t 24) (.c (.i .i64 3))))), 
  (.mk (some 26) none (.pure (.bin .shl (.c (.i .u8 1)) (.t 25)))), 
  (.mk (some 27) none (.pure (.bin .or (.t 23) (.t 26)))), 
  (.mk (some 7) none (.pure (.mv (.t 27))))]) .skip)))) (.ops [
  (.mk (some 28) none (.pure (.bin .add (.t 9) (.c (.i .i64 1))))), 
  (.mk (some 9) none (.pure (.mv (.t 28))))]))))))) (.seq (.ops [
  (.mk (some 29) none (.pure (.mv (.t 7)))), 
  (.mk (some 6) none (.pure (.mv (.t 29))))]) .ret)))))
def fn82 : AFn := (AFn.mk 21 [(.t 4)] (.seq (.ops [
  (.mk (some 4) none (.pure (.mv (.c (.i .u8 0)))))]) (.seq (.ops [
  (.mk (some 5) none (.pure (.mv (.c (.i .u8 0)))))]) (.seq (.seq (.ops [
  (.mk (some 7) none (.pure (.mv (.c (.i .i64 0)))))]) (.block 0 (.loop (.seq (.ops [
  (.mk (some 8) none (.pure (.bin .lss (.t 7) (.c (.i .i64 8)))))]) (.seq (.cond (.t 8) .skip (.exit 0)) (.seq (.block 1 (.seq (.ops [
  (.mk (some 9) none (.pure (.mv (.t 7)))), 
  (.mk (some 6) none (.pure (.mv (.t 9))))]) (.ops [
  (.mk (some 10) none (.pure (.mv (.t 5)))), 
  (.mk (some 11) none (.pure (.mv (.t 1)))), 
  (.mk (some 12) none (.pure (.mv (.t 0)))), 
  (.mk (some 13) none (.pure (.mv (.t 6)))), 
  (.mk (some 14) none (.callv (.t 11) [(.t 12), (.t 13)])), 
  (.mk (some 15) none (.pure (.conv .u8 (.t 14)))), 
  (.mk (some 16) none (.pure (.mv (.t 6)))), 
  (.mk (some 17) none (.pure (.bin .shl (.t 15) (.t 16)))), 
  (.mk (some 18) none (.pure (.bin .or (.t 10) (.t 17)))), 
  (.mk (some 5) none (.pure (.mv (.t 18))))]))) (.ops [
  (.mk (some 19) none (.pure (.bin .add (.t 7) (.c (.i .i64 1))))), 
  (.mk (some 7) none (.pure (.mv (.t 19))))]))))))) (.seq (.ops [
  (.mk (some 20) none (.pure (.mv (.t 5)))), 
  (.mk (some 4) none (.pure (.mv (.t 20))))]) .ret)))))
def fn83 : AFn := (AFn.mk 16 [(.t 4)] (.seq (.ops [
  (.mk (some 4) none (.pure (.mv (.c (.i .i64 0)))))]) (.seq (.ops [
  (.mk (some 5) none (.pure (.mv (.t 0)))), 
  (.mk (some 6) none (.pure (.mv (.t 1)))), 
  (.mk (some 7) none (.pure (.bin .and (.t 6) (.c (.i .i64 1))))), 
  (.mk (some 8) none (.pure (.bin .shl (.t 7) (.c (.i .u64 2))))), 
  (.mk (some 9) none (.pure (.mv (.t 1)))), 
  (.mk (some 10) none (.pure (.bin .and (.t 9) (.c (.i .i64 2))))), 
  (.mk (some 11) none (.pure (.bin .or (.t 8) (.t 10)))), 
  (.mk (some 12) none (.pure (.mv (.t 1)))), 
  (.mk (some 13) none (.pure (.bin .shr (.t 12) (.c (.i .u64 2))))), 
  (.mk (some 14) none (.pure (.bin .or (.t 11) (.t 13)))), 
  (.mk (some 15) none (.call 72 [(.t 5), (.t 14)])), 
  (.mk (some 4) none (.pure (.mv (.t 15))))]) .ret)))
def fn84 : AFn := (AFn.mk 10 [(.t 4)] (.seq (.ops [
  (.mk (some 4) none (.pure (.mv (.c (.i .i64 0)))))]) (.seq (.ops [
  (.mk (some 5) none (.pure (.mv (.t 0)))), 
  (.mk (some 6) none (.pure (.mv (.t 1)))), 
  (.mk (some 7) none (.pure (.bin .sub (.c (.i .i64 7)) (.t 6)))), 
  (.mk (some 8) none (.call 72 [(.t 5), (.t 7)])), 
  (.mk (some 9) none (.pure (.bin .sub (.c (.i .i64 1)) (.t 8)))), 
  (.mk (some 4) none (.pure (.mv (.t 9))))]) .ret)))
def F (f : Nat) : Option AFn := cond (Nat.blt f 51) (cond (Nat.blt f 36) (cond (Nat.blt f 26) (cond (Nat.blt f 15) (cond (Nat.beq f 7) (some fn7) none) (cond (Nat.blt f 16) (cond (Nat.beq f 15) (some fn15) none) (cond (Nat.beq f 16) (some fn16) none))) (cond (Nat.blt f 34) (cond (Nat.blt f 28) (cond (Nat.beq f 26) (some fn26) none) (cond (Nat.beq f 28) (some fn28) none)) (cond (Nat.blt f 35) (cond (Nat.beq f 34) (some fn34) none) (cond (Nat.beq f 35) (some fn35) none)))) (cond (Nat.blt f 46) (cond (Nat.blt f 43) (cond (Nat.beq f 36) (some fn36) none) (cond (Nat.blt f 45) (cond (Nat.beq f 43) (some fn43) none) (cond (Nat.beq f 45) (some fn45) none))) (cond (Nat.blt f 48) (cond (Nat.blt f 47) (cond (Nat.beq f 46) (some fn46) none) (cond (Nat.beq f 47) (some fn47) none)) (cond (Nat.blt f 49) (cond (Nat.beq f 48) (some fn48) none) (cond (Nat.beq f 49) (some fn49) none))))) (cond (Nat.blt f 71) (cond (Nat.blt f 61) (cond (Nat.blt f 52) (cond (Nat.beq f 51) (some fn51) none) (cond (Nat.blt f 54) (cond (Nat.beq f 52) (some fn52) none) (cond (Nat.beq f 54) (some fn54) none))) (cond (Nat.blt f 67) (cond (Nat.blt f 62) (cond (Nat.beq f 61) (some fn61) none) (cond (Nat.beq f 62) (some fn62) none)) (cond (Nat.blt f 69) (cond (Nat.beq f 67) (some fn67) none) (cond (Nat.beq f 69) (some fn69) none)))) (cond (Nat.blt f 78) (cond (Nat.blt f 73) (cond (Nat.blt f 72) (cond (Nat.beq f 71) (some fn71) none) (cond (Nat.beq f 72) (some fn72) none)) (cond (Nat.blt f 76) (cond (Nat.beq f 73) (some fn73) none) (cond (Nat.beq f 76) (some fn76) none))) (cond (Nat.blt f 83) (cond (Nat.blt f 82) (cond (Nat.beq f 78) (some fn78) none) (cond (Nat.beq f 82) (some fn82) none)) (cond (Nat.blt f 84) (cond (Nat.beq f 83) (some fn83) none) (cond (Nat.beq f 84) (some fn84) none)))))
end Go.Proofs.Ytgbkicelkpagpaa.W
